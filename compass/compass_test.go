package compass

import (
	"hash/fnv"
	"math"
	"math/big"
	"math/cmplx"
	"strings"
	"testing"

	"funicular/api"
)

const side = 1 << 15

// edges is the parts of points at which an answer may turn.
func edges() []int {
	return []int{-side, 1 - side, -77, -3, -2, -1, 0, 1, 2, 3, 64, 77, side - 1, side}
}

// points is the edges' points, all that lie near the middle, and some that look like chance.
func points() []complex128 {
	var list []complex128
	for _, x := range edges() {
		for _, y := range edges() {
			list = append(list, at(x, y))
		}
	}
	for x := -9; x <= 9; x++ {
		for y := -9; y <= 9; y++ {
			list = append(list, at(x, y))
		}
	}
	seed := uint32(7)
	for range 500 {
		seed = seed*1664525 + 1013904223
		list = append(list, at(int(seed>>16)-side, int(seed*2654435761>>16)-side))
	}
	return list
}

func at(x, y int) complex128 { return complex(float64(x), float64(y)) }

func whole(z complex128) (x, y int) { return int(real(z)), int(imag(z)) }

// turnedOnce is a quarter's turn without a product.
func turnedOnce(x, y int) (int, int) { return -y, x }

// quarterOf is promise 3.3, sign by sign.
func quarterOf(x, y int) int {
	switch {
	case x > 0 && y >= 0:
		return 0
	case y > 0 && x <= 0:
		return 1
	case x < 0 && y <= 0:
		return 2
	case y < 0 && x >= 0:
		return 3
	}
	return 0
}

// partOf is promise 3.5's fraction, cut off, by numbers of any size.
func partOf(x, y, n int) int {
	if x == 0 && y == 0 {
		return 0
	}
	q := quarterOf(x, y)
	a, b := x, y
	for range (4 - q) % 4 {
		a, b = turnedOnce(a, b)
	}
	above := big.NewInt(int64((q*(a+b) + b) * n))
	return int(above.Quo(above, big.NewInt(int64(4*(a+b)))).Int64())
}

// part is Part, of which no error is expected.
func part(t *testing.T, z complex128, n int) int {
	t.Helper()
	p, err := Part(z, n)
	if err != api.OK {
		t.Fatalf("Part(%v, %d): %v", z, n, err)
	}
	return p
}

// 3.1

func TestPointKnown(t *testing.T) {
	for _, c := range []struct {
		key  uint32
		x, y int
	}{
		{0, 0, 0},
		{1, 1, 0},
		{1 << 16, 0, 1},
		{0x00030002, 2, 3},
		{0x7fff, side - 1, 0},
		{0x8000, -side, 0},
		{0xffff, -1, 0},
		{0x7fff0000, 0, side - 1},
		{0x80000000, 0, -side},
		{0xffff0000, 0, -1},
		{0x7fff8000, -side, side - 1},
		{0x80007fff, side - 1, -side},
		{0x80008000, -side, -side},
		{0xffffffff, -1, -1},
		{0xfffe0005, 5, -2},
	} {
		if z := Point(c.key); z != at(c.x, c.y) {
			t.Errorf("Point(%#x): %v, not %v", c.key, z, at(c.x, c.y))
		}
	}
}

func TestPointOfAllHalves(t *testing.T) {
	for low := range 1 << 16 {
		x := low
		if low >= side {
			x = low - 1<<16
		}
		for _, high := range []struct{ n, y int }{{0, 0}, {1, 1}, {0x7fff, side - 1}, {0x8000, -side}, {0xffff, -1}} {
			if z := Point(uint32(high.n<<16 + low)); z != at(x, high.y) {
				t.Fatalf("low %#x, high %#x: %v", low, high.n, z)
			}
			if z := Point(uint32(low<<16 + high.n)); z != at(high.y, x) {
				t.Fatalf("low %#x, high %#x: %v", high.n, low, z)
			}
		}
	}
}

// 3.2

func TestTurnKnown(t *testing.T) {
	for _, c := range []struct {
		z    complex128
		n    int
		want complex128
	}{
		{at(2, 1), 0, at(2, 1)},
		{at(2, 1), 1, at(-1, 2)},
		{at(2, 1), 2, at(-2, -1)},
		{at(2, 1), 3, at(1, -2)},
		{at(2, 1), 4, at(2, 1)},
		{at(2, 1), 5, at(-1, 2)},
		{at(2, 1), -1, at(1, -2)},
		{at(2, 1), -2, at(-2, -1)},
		{at(2, 1), -3, at(-1, 2)},
		{at(2, 1), -4, at(2, 1)},
		{at(2, 1), -5, at(1, -2)},
		{at(2, 1), math.MaxInt, at(1, -2)},
		{at(2, 1), math.MaxInt - 1, at(-2, -1)},
		{at(2, 1), math.MinInt, at(2, 1)},
		{at(2, 1), math.MinInt + 1, at(-1, 2)},
		{at(-side, side), 1, at(-side, -side)},
		{at(side, -side), -1, at(-side, -side)},
		{at(0, 0), 1, at(0, 0)},
		{at(0, side), 1, at(-side, 0)},
	} {
		if z := Turn(c.z, c.n); z != c.want {
			t.Errorf("Turn(%v, %d): %v, not %v", c.z, c.n, z, c.want)
		}
	}
}

func TestTurnGoesByTheRemainderOfFour(t *testing.T) {
	turns := []int{math.MinInt, math.MinInt + 1, math.MinInt + 2, math.MinInt + 3, -1 << 40, -1001, 1001, 1 << 40, 1<<40 + 1, math.MaxInt - 3, math.MaxInt - 2, math.MaxInt - 1, math.MaxInt}
	for n := -13; n <= 13; n++ {
		turns = append(turns, n)
	}
	four := big.NewInt(4)
	for _, z := range points() {
		for _, n := range turns {
			x, y := whole(z)
			for range new(big.Int).Mod(big.NewInt(int64(n)), four).Int64() {
				x, y = turnedOnce(x, y)
			}
			if got := Turn(z, n); got != at(x, y) {
				t.Fatalf("Turn(%v, %d): %v, not %v", z, n, got, at(x, y))
			}
		}
	}
}

func TestTurnIsUndone(t *testing.T) {
	for _, z := range points() {
		for n := -9; n <= 9; n++ {
			if back := Turn(Turn(z, n), -n); back != z {
				t.Fatalf("%v turned by %d and back: %v", z, n, back)
			}
			if on := Turn(z, n+1); on != Turn(z, n)*complex(0, 1) {
				t.Fatalf("%v turned by %d: %v", z, n+1, on)
			}
		}
	}
}

// 3.3

func TestQuarterKnown(t *testing.T) {
	for _, c := range []struct{ x, y, want int }{
		{0, 0, 0},
		{1, 0, 0}, {side, 0, 0}, {1, 1, 0}, {1, side, 0},
		{0, 1, 1}, {0, side, 1}, {-1, 1, 1}, {-side, 1, 1},
		{-1, 0, 2}, {-side, 0, 2}, {-1, -1, 2}, {-1, -side, 2},
		{0, -1, 3}, {0, -side, 3}, {1, -1, 3}, {side, -1, 3},
	} {
		if q := Quarter(at(c.x, c.y)); q != c.want {
			t.Errorf("Quarter(%v): %d, not %d", at(c.x, c.y), q, c.want)
		}
	}
}

func TestQuarterOfSignsOfNoughts(t *testing.T) {
	nought := math.Copysign(0, -1)
	for _, c := range []struct {
		z    complex128
		want int
	}{
		{complex(nought, nought), 0}, {complex(0, nought), 0}, {complex(nought, 0), 0},
		{complex(5, nought), 0}, {complex(nought, 5), 1}, {complex(-5, nought), 2}, {complex(nought, -5), 3},
	} {
		if q := Quarter(c.z); q != c.want {
			t.Errorf("Quarter(%v): %d, not %d", c.z, q, c.want)
		}
		if p := part(t, c.z, 8); p != 2*c.want {
			t.Errorf("Part(%v, 8): %d, not %d", c.z, p, 2*c.want)
		}
	}
}

func TestQuarterOfAllPoints(t *testing.T) {
	for _, z := range points() {
		x, y := whole(z)
		if q := Quarter(z); q != quarterOf(x, y) {
			t.Fatalf("Quarter(%v): %d", z, q)
		}
		if z == 0 {
			continue
		}
		for n := range 4 {
			if q := Quarter(Turn(z, n)); q != (Quarter(z)+n)%4 {
				t.Fatalf("%v turned by %d: quarter %d", z, n, q)
			}
		}
	}
}

// 3.4

func TestNormKnown(t *testing.T) {
	for _, c := range []struct {
		x, y int
		want int64
	}{
		{0, 0, 0}, {3, 4, 25}, {-3, 4, 25}, {3, -4, 25}, {1, 0, 1}, {0, -1, 1},
		{side, 0, 1 << 30}, {side, side, 1 << 31}, {-side, -side, 1 << 31}, {side - 1, 1 - side, 2 * (side - 1) * (side - 1)},
	} {
		if n := Norm(at(c.x, c.y)); n != c.want {
			t.Errorf("Norm(%v): %d, not %d", at(c.x, c.y), n, c.want)
		}
	}
}

func TestNormOfAllPoints(t *testing.T) {
	for _, z := range points() {
		x, y := whole(z)
		for n := range 4 {
			if got := Norm(Turn(z, n)); got != int64(x*x+y*y) {
				t.Fatalf("Norm of %v turned by %d: %d", z, n, got)
			}
		}
	}
}

// 3.5

func TestPartKnown(t *testing.T) {
	for _, c := range []struct{ x, y, n, want int }{
		{1, 1, 8, 1},
		{1, 0, 64, 0}, {0, 1, 64, 16}, {-1, 0, 64, 32}, {0, -1, 64, 48},
		{1, -1, 8, 7}, {-1, 1, 8, 3}, {-1, -1, 8, 5},
		{2, 1, 4, 0}, {2, 1, 12, 1}, {2, 1, 11, 0},
		{1, 2, 12, 2}, {1, 2, 13, 2},
		{side, -1, 64, 63}, {side, -1, 1, 0}, {side, 1, 64, 0}, {1, side, 64, 15},
		{-side, -side, 64, 40}, {side, side, 64, 8}, {side, -side, 64, 56}, {-side, side, 64, 24},
		{0, -1, 2, 1}, {0, -1, 3, 2}, {0, 1, 3, 0}, {-1, 0, 3, 1},
		{0, 0, 1, 0}, {0, 0, 7, 0}, {0, 0, 64, 0},
	} {
		if p := part(t, at(c.x, c.y), c.n); p != c.want {
			t.Errorf("Part(%v, %d): %d, not %d", at(c.x, c.y), c.n, p, c.want)
		}
	}
}

func TestPartOfAllPoints(t *testing.T) {
	for _, z := range points() {
		x, y := whole(z)
		for n := 1; n <= api.MaxParts; n++ {
			p := part(t, z, n)
			if p != partOf(x, y, n) {
				t.Fatalf("Part(%v, %d): %d, not %d", z, n, p, partOf(x, y, n))
			}
			if p < 0 || p >= n {
				t.Fatalf("Part(%v, %d): %d is none of them", z, n, p)
			}
		}
	}
}

func TestPartRefused(t *testing.T) {
	for _, n := range []int{math.MinInt, -64, -1, 0, api.MaxParts + 1, 128, 1 << 32, 1<<32 + 1, math.MaxInt} {
		for _, z := range []complex128{0, at(1, 1), at(-side, -side), at(0, -1)} {
			if p, err := Part(z, n); p != 0 || err != api.ErrRange {
				t.Errorf("Part(%v, %d): %d, %v", z, n, p, err)
			}
		}
		for _, s := range []string{"", "a", "order"} {
			if p, err := Route(s, n); p != 0 || err != api.ErrRange {
				t.Errorf("Route(%q, %d): %d, %v", s, n, p, err)
			}
		}
	}
}

// The language's rule, not the chapter: a call ends without a panic, also of what is no point.
func TestWhatIsNoPointEnds(t *testing.T) {
	odd := []float64{0, 0.25, -0.5, 1.5, 1 << 31, -1 << 31, 1 << 40, 1 << 62, -1 << 63, 1e300, -1e300, math.SmallestNonzeroFloat64, math.Inf(1), math.Inf(-1), math.NaN()}
	for _, x := range odd {
		for _, y := range odd {
			z := complex(x, y)
			Turn(z, 3)
			Quarter(z)
			Norm(z)
			for _, n := range []int{1, 3, 64} {
				Part(z, n)
			}
		}
	}
	Quarter(cmplx.NaN())
}

// 3.6

func TestKeyKnown(t *testing.T) {
	for _, c := range []struct {
		s    string
		want uint32
	}{
		{"", 2166136261},
		{"a", 3826002220},
		{"b", 0xe70c2de5},
		{"foobar", 0xbf9cf968},
		{"\x00", 0x050c5d1f},
		{"\xff", 0x7a0b824e},
	} {
		if k := Key(c.s); k != c.want {
			t.Errorf("Key(%q): %d, not %d", c.s, k, c.want)
		}
	}
}

// texts is the empty one, one of each byte, names, and longer ones with all bytes.
func texts() []string {
	list := []string{"", "a", "b", "paid", "order1", "héé", "\x80\xff\xfe", "\x00\x00", "ab", "ba", strings.Repeat("z", 32), strings.Repeat("\xff", 999)}
	all := make([]byte, 256)
	for i := range all {
		all[i] = byte(i)
		list = append(list, string(all[i:i+1]), string(all[:i]))
	}
	return append(list, string(all))
}

func TestKeyOfTexts(t *testing.T) {
	for _, s := range texts() {
		h := fnv.New32a()
		h.Write([]byte(s))
		if k := Key(s); k != h.Sum32() {
			t.Fatalf("Key(%q): %d, not %d", s, k, h.Sum32())
		}
	}
}

func TestRoute(t *testing.T) {
	for _, s := range texts() {
		for _, n := range []int{1, 2, 3, 4, 7, 8, 63, 64} {
			k := Key(s)
			want := partOf(int(int16(k)), int(int16(k>>16)), n)
			if p, err := Route(s, n); p != want || err != api.OK {
				t.Fatalf("Route(%q, %d): %d, %v, not %d", s, n, p, err, want)
			}
		}
	}
}

func TestRouteReachesAllParts(t *testing.T) {
	for _, n := range []int{1, 3, 16, 64} {
		seen := make([]int, n)
		for i := range 4096 {
			p, err := Route("order"+string(rune('a'+i%26))+string(rune('a'+i/26%26))+string(rune('a'+i/676)), n)
			if err != api.OK {
				t.Fatal(err)
			}
			seen[p]++
		}
		for p, times := range seen {
			if times == 0 {
				t.Errorf("of %d parts no name belongs to %d", n, p)
			}
		}
	}
}

// 3.7

func TestAQuartersTurnIsAQuarterOfTheParts(t *testing.T) {
	for _, z := range points() {
		if z == 0 {
			continue
		}
		for n := 4; n <= api.MaxParts; n += 4 {
			if on, want := part(t, Turn(z, 1), n), (part(t, z, n)+n/4)%n; on != want {
				t.Fatalf("%v turned, of %d parts: %d, not %d", z, n, on, want)
			}
			if back, want := part(t, Turn(z, -1), n), (part(t, z, n)+3*n/4)%n; back != want {
				t.Fatalf("%v turned back, of %d parts: %d, not %d", z, n, back, want)
			}
		}
	}
}

func TestHowFarPlaysNoPart(t *testing.T) {
	for _, z := range points() {
		x, y := whole(z)
		for _, k := range []int{2, 3, 7, 1000, 3640, side} {
			if max(x*k, -x*k, y*k, -y*k) > side {
				continue
			}
			for n := 1; n <= api.MaxParts; n++ {
				if far, near := part(t, at(x*k, y*k), n), part(t, z, n); far != near {
					t.Fatalf("%v of %d parts: %d, and %d times as far: %d", z, n, near, k, far)
				}
			}
		}
	}
}

// As a point goes round, from quarter to quarter, its part never falls.
func TestPartsRiseAlongTheCircle(t *testing.T) {
	const far = 40
	for _, n := range []int{1, 2, 3, 5, 8, 63, 64} {
		last := 0
		for q := range 4 {
			for b := range far {
				p := part(t, Turn(at(far-b, b), q), n)
				if p < last || p > last+1+n/(4*far) {
					t.Fatalf("of %d parts %d comes behind %d", n, p, last)
				}
				last = p
			}
		}
		if last != n-1 {
			t.Errorf("the last of %d parts: %d", n, last)
		}
	}
}
