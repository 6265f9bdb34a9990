package pack

import (
	"bytes"
	"math"
	"math/big"
	"strings"
	"testing"

	"funicular/api"
)

// digits is n's row as promise 2.1 words it, by numbers of any size.
func digits(n uint64) []byte {
	rest, base := new(big.Int).SetUint64(n), big.NewInt(128)
	var row []byte
	for len(row) == 0 || rest.Sign() > 0 {
		d := new(big.Int)
		rest.DivMod(rest, base, d)
		row = append(row, byte(d.Int64()))
	}
	for i := range len(row) - 1 {
		row[i] += 128
	}
	return row
}

// numbers is the edges of all rows' lengths, and numbers that look like chance.
func numbers() []uint64 {
	list := []uint64{0, 1, 2, 127, 128, 129, 255, 256, 300, 16383, 16384, math.MaxUint64, math.MaxUint64 - 1}
	for k := range 64 {
		list = append(list, 1<<k, 1<<k-1, 1<<k+1)
	}
	seed := uint64(5)
	for k := range 500 {
		seed = seed*6364136223846793005 + 1442695040888963407
		list = append(list, seed>>(k%64))
	}
	return list
}

// ints is numbers on both sides of 0.
func ints() []int64 {
	list := []int64{math.MinInt64, math.MinInt64 + 1, math.MaxInt64, math.MaxInt64 - 1}
	for _, n := range numbers() {
		list = append(list, int64(n), -int64(n))
	}
	return list
}

// roomy is b in memory that has more behind it, and all of that memory.
func roomy(b []byte, behind int) ([]byte, []byte) {
	all := append(bytes.Clone(b), bytes.Repeat([]byte{0xee}, behind)...)
	return all[:len(b)], all
}

func joined(lists ...[]byte) []byte { return bytes.Join(lists, nil) }

func TestUintKnownRows(t *testing.T) {
	for _, c := range []struct {
		n   uint64
		row []byte
	}{
		{0, []byte{0}},
		{1, []byte{1}},
		{127, []byte{127}},
		{128, []byte{128, 1}},
		{300, []byte{172, 2}},
		{16383, []byte{255, 127}},
		{16384, []byte{128, 128, 1}},
		{1<<63 - 1, []byte{255, 255, 255, 255, 255, 255, 255, 255, 127}},
		{1 << 63, []byte{128, 128, 128, 128, 128, 128, 128, 128, 128, 1}},
		{math.MaxUint64, []byte{255, 255, 255, 255, 255, 255, 255, 255, 255, 1}},
	} {
		if got := Uint(nil, c.n); !bytes.Equal(got, c.row) {
			t.Errorf("Uint(nil, %d) = %v, want %v", c.n, got, c.row)
		}
		if n, rest, err := ReadUint(c.row); n != c.n || len(rest) != 0 || err != api.OK {
			t.Errorf("ReadUint(%v) = %d, %v, %v, want %d", c.row, n, rest, err, c.n)
		}
	}
}

func TestUintIsTheRow(t *testing.T) {
	lengths := [11]int{}
	for _, n := range numbers() {
		row := Uint(nil, n)
		if !bytes.Equal(row, digits(n)) {
			t.Errorf("Uint(nil, %d) = %v, want %v", n, row, digits(n))
		}
		lengths[len(row)]++
	}
	for k := 1; k <= 10; k++ {
		if lengths[k] == 0 {
			t.Errorf("no row of %d bytes was tried", k)
		}
	}
}

func TestUintBehindBytes(t *testing.T) {
	for _, ahead := range [][]byte{nil, {}, {0}, {128}, []byte("some bytes ahead")} {
		for _, n := range numbers() {
			for _, room := range []int{0, 1, 2, 30} {
				b, _ := roomy(ahead, room)
				if got, want := Uint(b, n), joined(ahead, digits(n)); !bytes.Equal(got, want) {
					t.Fatalf("Uint(%v, %d) with room for %d = %v, want %v", ahead, n, room, got, want)
				}
				if !bytes.Equal(b, ahead) {
					t.Fatalf("Uint(%v, %d) changed what it was given to %v", ahead, n, b)
				}
			}
		}
	}
}

func TestReadUintLeavesWhatLiesBehind(t *testing.T) {
	for _, behind := range [][]byte{nil, {0}, {1}, {128}, {255, 255}, []byte("what lies behind")} {
		for _, n := range numbers() {
			b := joined(digits(n), behind)
			was := bytes.Clone(b)
			got, rest, err := ReadUint(b)
			if got != n || !bytes.Equal(rest, behind) || err != api.OK {
				t.Fatalf("ReadUint(%v) = %d, %v, %v, want %d, %v", b, got, rest, err, n, behind)
			}
			if !bytes.Equal(b, was) {
				t.Fatalf("ReadUint(%v) changed it to %v", was, b)
			}
		}
	}
}

// noRows is bytes that begin with no row, and why.
func noRows() map[string]api.Errno {
	full := strings.Repeat("\xff", 9)
	low := strings.Repeat("\x80", 9)
	list := map[string]api.Errno{
		"":                             api.ErrShort,
		"\x80":                         api.ErrShort,
		"\xff":                         api.ErrShort,
		"\x80\x00":                     api.ErrRange,
		"\xff\x00":                     api.ErrRange,
		"\x80\x00\x01":                 api.ErrRange,
		"\x80\x80\x00":                 api.ErrRange,
		full:                           api.ErrShort,
		low:                            api.ErrShort,
		low + "\x00":                   api.ErrRange,
		full + "\x00":                  api.ErrRange,
		low + "\x80\x00":               api.ErrRange,
		low + "\x81\x01":               api.ErrRange,
		full + "\xff\x01":              api.ErrRange,
		strings.Repeat("\x80", 1<<16):  api.ErrRange,
		full + "\x02":                  api.ErrRange,
		full + "\x02" + "what follows": api.ErrRange,
	}
	for c := 2; c < 256; c++ {
		list[low+string([]byte{byte(c)})] = api.ErrRange
	}
	for k := 1; k <= 9; k++ {
		list[strings.Repeat("\x81", k)] = api.ErrShort
		list[strings.Repeat("\x81", k)+"\x00"] = api.ErrRange
		list[strings.Repeat("\x81", k)+"\x00\x05"] = api.ErrRange
	}
	return list
}

func TestReadUintOfNoRow(t *testing.T) {
	for b, want := range noRows() {
		if n, rest, err := ReadUint([]byte(b)); n != 0 || len(rest) != 0 || err != want {
			t.Errorf("ReadUint(%v) = %d, %v, %v, want 0, no bytes, %v", []byte(b), n, rest, err, want)
		}
	}
	if n, rest, err := ReadUint(nil); n != 0 || len(rest) != 0 || err != api.ErrShort {
		t.Errorf("ReadUint(nil) = %d, %v, %v", n, rest, err)
	}
}

func TestReadUintOfRowsCutShort(t *testing.T) {
	for _, n := range numbers() {
		row := digits(n)
		for k := range len(row) {
			if got, rest, err := ReadUint(row[:k]); got != 0 || len(rest) != 0 || err != api.ErrShort {
				t.Fatalf("ReadUint(%v) = %d, %v, %v, want ErrShort", row[:k], got, rest, err)
			}
		}
	}
}

func TestIntKnownRows(t *testing.T) {
	for _, c := range []struct {
		n   int64
		row uint64
	}{
		{0, 0}, {-1, 1}, {1, 2}, {-2, 3}, {2, 4}, {-3, 5}, {63, 126}, {-64, 127}, {64, 128}, {-65, 129},
		{math.MaxInt64, math.MaxUint64 - 1}, {math.MinInt64, math.MaxUint64}, {math.MinInt64 + 1, math.MaxUint64 - 2},
	} {
		if got := Int(nil, c.n); !bytes.Equal(got, digits(c.row)) {
			t.Errorf("Int(nil, %d) = %v, want the row of %d, %v", c.n, got, c.row, digits(c.row))
		}
		if n, rest, err := ReadInt(digits(c.row)); n != c.n || len(rest) != 0 || err != api.OK {
			t.Errorf("ReadInt(%v) = %d, %v, %v, want %d", digits(c.row), n, rest, err, c.n)
		}
	}
	if got := Int(nil, -2); !bytes.Equal(got, []byte{3}) {
		t.Errorf("Int(nil, -2) = %v, want 3", got)
	}
}

// twice is the number of whose row Int tells, as promise 2.2 words it, by numbers of any size.
func twice(n int64) uint64 {
	m := big.NewInt(n)
	one := big.NewInt(1)
	if n >= 0 {
		return m.Lsh(m, 1).Uint64()
	}
	m.Sub(big.NewInt(-1), m)
	return m.Add(m.Lsh(m, 1), one).Uint64()
}

func TestIntThereAndBack(t *testing.T) {
	for _, n := range ints() {
		for _, ahead := range [][]byte{nil, {7}, {128, 128}} {
			b, _ := roomy(ahead, len(ahead))
			if got, want := Int(b, n), joined(ahead, digits(twice(n))); !bytes.Equal(got, want) || !bytes.Equal(b, ahead) {
				t.Fatalf("Int(%v, %d) = %v, want %v", ahead, n, got, want)
			}
		}
		for _, behind := range [][]byte{nil, {0}, {255}, []byte("behind")} {
			b := joined(Int(nil, n), behind)
			if got, rest, err := ReadInt(b); got != n || !bytes.Equal(rest, behind) || err != api.OK {
				t.Fatalf("ReadInt(%v) = %d, %v, %v, want %d, %v", b, got, rest, err, n, behind)
			}
		}
	}
}

func TestReadIntOfNoRow(t *testing.T) {
	for b, want := range noRows() {
		if n, rest, err := ReadInt([]byte(b)); n != 0 || len(rest) != 0 || err != want {
			t.Errorf("ReadInt(%v) = %d, %v, %v, want 0, no bytes, %v", []byte(b), n, rest, err, want)
		}
	}
	if n, rest, err := ReadInt(nil); n != 0 || len(rest) != 0 || err != api.ErrShort {
		t.Errorf("ReadInt(nil) = %d, %v, %v", n, rest, err)
	}
}

// texts is bytes of the lengths at which the row ahead of them grows, and others.
func texts() [][]byte {
	list := [][]byte{nil, {}, {0}, {128}, {2, 5}, []byte("paid")}
	for _, n := range []int{126, 127, 128, 129, 16383, 16384, 1 << 16} {
		s := make([]byte, n)
		for i := range s {
			s[i] = byte(i * 7)
		}
		list = append(list, s)
	}
	return list
}

func TestBytesThereAndBack(t *testing.T) {
	for _, s := range texts() {
		for _, ahead := range [][]byte{nil, {9}, []byte("ahead")} {
			for _, room := range []int{0, 1, 3, len(s), len(s) + 20} {
				b, _ := roomy(ahead, room)
				was := bytes.Clone(s)
				want := joined(ahead, digits(uint64(len(s))), s)
				if got := Bytes(b, s); !bytes.Equal(got, want) || !bytes.Equal(b, ahead) || !bytes.Equal(s, was) {
					t.Fatalf("Bytes of %d bytes behind %d, with room for %d, are others", len(s), len(ahead), room)
				}
			}
		}
		for _, behind := range [][]byte{nil, {0}, {255}, []byte("behind")} {
			b := joined(Bytes(nil, s), behind)
			was := bytes.Clone(b)
			got, rest, err := ReadBytes(b)
			if !bytes.Equal(got, s) || !bytes.Equal(rest, behind) || err != api.OK || !bytes.Equal(b, was) {
				t.Fatalf("ReadBytes of %d bytes with %v behind = %d bytes, %v, %v", len(s), behind, len(got), rest, err)
			}
		}
	}
}

func TestBytesKnown(t *testing.T) {
	if got := Bytes([]byte{9}, []byte("abc")); !bytes.Equal(got, []byte{9, 3, 'a', 'b', 'c'}) {
		t.Errorf("Bytes(9, abc) = %v", got)
	}
	if got := Bytes(nil, nil); !bytes.Equal(got, []byte{0}) {
		t.Errorf("Bytes(nil, nil) = %v", got)
	}
}

func TestBytesOfItsOwnMemory(t *testing.T) {
	for begin := range 6 {
		for n := range 6 {
			for length := range 6 {
				all := []byte("abcdefghijklmnop")
				s := all[begin : begin+n]
				want := joined(all[:length], []byte{byte(n)}, s)
				if got := Bytes(all[:length], s); !bytes.Equal(got, want) {
					t.Errorf("Bytes of %d bytes at %d, behind %d of the same memory = %v, want %v", n, begin, length, got, want)
				}
			}
		}
	}
}

func TestBytesKeepsNothingOfOthers(t *testing.T) {
	s := []byte("abc")
	got := Bytes(nil, s)
	s[0] = 'x'
	if !bytes.Equal(got, []byte{3, 'a', 'b', 'c'}) {
		t.Errorf("what Bytes told turns with what it was given: %v", got)
	}
}

func TestReadBytesOfTooFew(t *testing.T) {
	for _, b := range [][]byte{
		{1}, {2, 5}, {3, 1, 2}, {127}, {128, 1}, {128, 1, 0},
		digits(math.MaxInt64), digits(math.MaxInt64 + 1), digits(math.MaxUint64),
		joined(digits(math.MaxUint64), []byte("abc")),
		joined(digits(1<<32), []byte("abc")),
		joined(digits(1<<63+2), []byte("abc")),
	} {
		if s, rest, err := ReadBytes(b); len(s) != 0 || len(rest) != 0 || err != api.ErrShort {
			t.Errorf("ReadBytes(%v) = %v, %v, %v, want ErrShort", b, s, rest, err)
		}
	}
}

func TestReadBytesCutShort(t *testing.T) {
	for _, s := range texts()[:9] {
		b := Bytes(nil, s)
		for k := range len(b) {
			cut, _ := roomy(b[:k], 300) // what lies behind the length is no byte of the text
			if s, rest, err := ReadBytes(cut); len(s) != 0 || len(rest) != 0 || err != api.ErrShort {
				t.Fatalf("ReadBytes of %d bytes cut at %d = %v, %v, %v, want ErrShort", len(b), k, s, rest, err)
			}
		}
	}
}

func TestReadBytesOfNoRow(t *testing.T) {
	for b, want := range noRows() {
		if s, rest, err := ReadBytes([]byte(b)); len(s) != 0 || len(rest) != 0 || err != want {
			t.Errorf("ReadBytes(%v) = %v, %v, %v, want %v", []byte(b), s, rest, err, want)
		}
	}
	if s, rest, err := ReadBytes(nil); len(s) != 0 || len(rest) != 0 || err != api.ErrShort {
		t.Errorf("ReadBytes(nil) = %v, %v, %v", s, rest, err)
	}
}

func TestReadBytesLieWithinTheMemory(t *testing.T) {
	b := []byte{2, 5, 6, 7}
	s, rest, _ := ReadBytes(b)
	b[1], b[3] = 50, 70
	if !bytes.Equal(s, []byte{50, 6}) || !bytes.Equal(rest, []byte{70}) {
		t.Errorf("ReadBytes told bytes of another memory: %v, %v", s, rest)
	}
}

func TestToldBytesAreCutOffWithTheirRoom(t *testing.T) {
	for _, text := range [][]byte{{2, 5, 6, 7, 8}, {0, 7, 8}, {2, 5, 6}, {0}} {
		b, all := roomy(text, 8)
		was := bytes.Clone(all)
		_, behind, _ := ReadUint(b)
		_, behindInt, _ := ReadInt(b)
		s, rest, err := ReadBytes(b)
		if err != api.OK {
			t.Fatalf("ReadBytes(%v): %v", b, err)
		}
		for i, told := range [][]byte{behind, behindInt, s, rest} {
			if cap(told) != len(told) {
				t.Errorf("%v: list %d of %d bytes has room for %d", text, i, len(told), cap(told))
			}
			if _ = append(told, 99); !bytes.Equal(all, was) {
				t.Errorf("%v: a byte behind list %d was written into the memory", text, i)
			}
		}
	}
}

func TestName(t *testing.T) {
	long := strings.Repeat("a", 32)
	for _, s := range []string{"a", "z", "m", "a1", "z9", "a0", "paid", "abc123def", "aa", "x7y", long, "a" + strings.Repeat("9", 31)} {
		if !Name(s) {
			t.Errorf("Name(%q) is false", s)
		}
	}
	for _, s := range []string{
		"", "1", "1a", "0", "9z", "A", "Z", "aA", "Aa", "a_", "_a", "a-b", "a b", " a", "a ", "a.b", "a\x00", "\x00", "\n",
		"a`", "`a", "a{", "{a", "a/", "a:", "é", "aé", "a\xff", "\x80", "ａ", "a\u0661",
		long + "a", long + "1", "1" + long[1:], long[:31] + "A", long[:31] + "-", strings.Repeat("a", 1000),
	} {
		if Name(s) {
			t.Errorf("Name(%q) is true", s)
		}
	}
}

func TestNameByEachByte(t *testing.T) {
	for c := range 256 {
		letter := strings.ContainsRune("abcdefghijklmnopqrstuvwxyz", rune(c))
		digit := strings.ContainsRune("0123456789", rune(c))
		one := string([]byte{byte(c)})
		if Name(one) != letter {
			t.Errorf("Name(%q) is %v", one, Name(one))
		}
		for _, s := range []string{"a" + one, "a" + one + "b", strings.Repeat("q", 31) + one} {
			if Name(s) != (letter || digit) {
				t.Errorf("Name(%q) is %v", s, Name(s))
			}
		}
		if Name(one+strings.Repeat("a", 32)) || Name(strings.Repeat("a", 32)+one) {
			t.Errorf("33 bytes with %q are a name", one)
		}
	}
}

// Promise 2.5: many written one behind the other are read one by one.
func TestManyBehindOneAnother(t *testing.T) {
	var b []byte
	for i, n := range numbers() {
		b = Uint(b, n)
		b = Int(b, int64(n))
		b = Bytes(b, bytes.Repeat([]byte{byte(i)}, i%200))
	}
	for i, n := range numbers() {
		u, behind, errU := ReadUint(b)
		v, behind2, errI := ReadInt(behind)
		s, rest, errS := ReadBytes(behind2)
		if u != n || v != int64(n) || !bytes.Equal(s, bytes.Repeat([]byte{byte(i)}, i%200)) || errU+errI+errS != api.OK {
			t.Fatalf("the %dth: %d, %d, %v, %v, %v, %v", i, u, v, s, errU, errI, errS)
		}
		b = rest
	}
	if len(b) != 0 {
		t.Errorf("%d bytes are left", len(b))
	}
}

// sameAgain tells whether what b is read as is written as what was read.
func sameAgain(b []byte) bool {
	same := true
	if n, rest, err := ReadUint(b); err == api.OK {
		same = same && bytes.Equal(joined(Uint(nil, n), rest), b)
	}
	if n, rest, err := ReadInt(b); err == api.OK {
		same = same && bytes.Equal(joined(Int(nil, n), rest), b)
	}
	if s, rest, err := ReadBytes(b); err == api.OK {
		same = same && bytes.Equal(joined(Bytes(nil, s), rest), b)
	}
	return same
}

// Promise 2.5: in one way alone.
func TestReadInOneWayAlone(t *testing.T) {
	for c := range 256 {
		for d := range 256 {
			for _, b := range [][]byte{{byte(c), byte(d)}, {byte(c), byte(d), 0}, {byte(c), byte(d), 1, 2}, {255, 128, byte(c), byte(d)}} {
				if !sameAgain(b) {
					t.Errorf("%v is read, and written otherwise", b)
				}
			}
		}
	}
	seed := uint64(1)
	for range 20000 {
		b := make([]byte, 12)
		for i := range b {
			seed = seed*6364136223846793005 + 1442695040888963407
			b[i] = byte(seed>>56) | byte(seed>>40&128)
		}
		if !sameAgain(b) {
			t.Errorf("%v is read, and written otherwise", b)
		}
	}
}
