package vars

import (
	"bytes"
	"encoding/binary"
	"math"
	"reflect"
	"slices"
	"strconv"
	"strings"
	"testing"
	"unsafe"

	"funicular/api"
)

const (
	least    = math.MinInt64
	greatest = math.MaxInt64
)

// of is variables by their names, with blanks between, and their numbers.
func of(names string, vals ...int64) api.Vars {
	return api.Vars{Names: strings.Fields(names), Vals: vals}
}

// many is n variables, from v100 on, with numbers on both sides of 0.
func many(n int) api.Vars {
	var v api.Vars
	for i := range n {
		v.Names = append(v.Names, "v"+strconv.Itoa(100+i))
		v.Vals = append(v.Vals, int64(i*i-50))
	}
	return v
}

// long is a name of n bytes.
func long(n int) string { return strings.Repeat("q", n) }

// noNames is texts that no variable may be called by.
func noNames() []string {
	list := []string{
		"", "1", "1a", "0", "A", "aA", "a_", "_a", "a-b", "a b", " a", "a ", "a\x00", "\x00", "a{", "`a", "é", "aé", "a\xff", "\x80",
		long(33), long(1000), "yes", "no",
	}
	for c := range 256 {
		if one := string([]byte{byte(c)}); c < 'a' || c > 'z' {
			list = append(list, one, one+"a")
		}
	}
	return list
}

// copied is variables of their own memory, without any call of the package.
func copied(v api.Vars) api.Vars {
	var c api.Vars
	for _, name := range v.Names {
		c.Names = append(c.Names, string([]byte(name)))
	}
	c.Vals = append(c.Vals, v.Vals...)
	return c
}

// equal holds variables against each other by what the library says, lists without elements being nil.
func equal(a, b api.Vars) bool { return reflect.DeepEqual(copied(a), copied(b)) }

func zero(v api.Vars) bool { return len(v.Names) == 0 && len(v.Vals) == 0 }

func wantCheck(t *testing.T, v api.Vars, err api.Errno) {
	t.Helper()
	if e := Check(v); e != err {
		t.Errorf("Check(%v) = %d, want %d", v, e, err)
	}
}

func wantGet(t *testing.T, v api.Vars, name string, n int64) {
	t.Helper()
	if got, found := Get(v, name); got != n || !found {
		t.Errorf("Get(%v, %q) = %d, %v, want %d", v, name, got, found, n)
	}
}

func wantNoGet(t *testing.T, v api.Vars, name string) {
	t.Helper()
	if got, found := Get(v, name); got != 0 || found {
		t.Errorf("Get(%v, %q) = %d, %v, want none", v, name, got, found)
	}
}

// wantVars fails the test, if an answer is other variables, or an error.
func wantVars(t *testing.T, what string, got api.Vars, err api.Errno, want api.Vars) {
	t.Helper()
	if !equal(got, want) || err != api.OK {
		t.Errorf("%s = %v, %d, want %v", what, got, err, want)
	}
}

// wantError fails the test, if an answer is variables, or another error.
func wantError(t *testing.T, what string, got api.Vars, err, want api.Errno) {
	t.Helper()
	if !zero(got) || err != want {
		t.Errorf("%s = %v, %d, want no variables, %d", what, got, err, want)
	}
}

func wantOf(t *testing.T, want api.Vars, l ...api.Vars) {
	t.Helper()
	got, err := Of(l...)
	wantVars(t, "Of", got, err, want)
}

func wantNoOf(t *testing.T, want api.Errno, l ...api.Vars) {
	t.Helper()
	got, err := Of(l...)
	wantError(t, "Of", got, err, want)
}

func wantSet(t *testing.T, v api.Vars, name string, n int64, want api.Vars) {
	t.Helper()
	got, err := Set(v, name, n)
	wantVars(t, "Set", got, err, want)
}

func wantNoSet(t *testing.T, v api.Vars, name string, want api.Errno) {
	t.Helper()
	got, err := Set(v, name, 1)
	wantError(t, "Set", got, err, want)
}

func wantDiff(t *testing.T, from, to, want api.Vars) {
	t.Helper()
	got, err := Diff(from, to)
	wantVars(t, "Diff", got, err, want)
}

func wantNoDiff(t *testing.T, from, to api.Vars, want api.Errno) {
	t.Helper()
	got, err := Diff(from, to)
	wantError(t, "Diff", got, err, want)
}

func wantRead(t *testing.T, b []byte, want api.Vars, behind []byte) {
	t.Helper()
	got, rest, err := Read(b)
	wantVars(t, "Read", got, err, want)
	if !bytes.Equal(rest, behind) {
		t.Errorf("Read(%v): %v behind, want %v", b, rest, behind)
	}
}

func wantNoRead(t *testing.T, b []byte, want api.Errno) {
	t.Helper()
	got, rest, err := Read(b)
	if !zero(got) || len(rest) != 0 || err != want {
		t.Errorf("Read(%v) = %v, %v, %d, want nothing, %d", b, got, rest, err, want)
	}
}

// written is variables' bytes as 9.5 says them, by the library's own numbers of seven bits a byte.
func written(v api.Vars) []byte {
	b := binary.AppendUvarint(nil, uint64(len(v.Names)))
	for i, name := range v.Names {
		b = binary.AppendUvarint(b, uint64(len(name)))
		b = append(b, name...)
		b = binary.AppendVarint(b, v.Vals[i])
	}
	return b
}

// roomy is b in memory that has some more behind it.
func roomy(b []byte, behind []byte) []byte { return slices.Concat(b, behind)[:len(b)] }

func TestExample(t *testing.T) {
	wantOf(t, of("a b", -1, 5), of("b", 2), of("a", -1), of("b", 5))
	wantNoSet(t, of("a b", -1, 5), "no", api.ErrArg)
}

// 9.1

// fine is variables that may be.
func fine() []api.Vars {
	return []api.Vars{
		{},
		{Names: []string{}, Vals: []int64{}},
		of("a", 0),
		of("z", -1),
		of("a b", least, greatest),
		of("a b c", 3, 2, 1),
		of("a a0 a00 a0a a1 aa ab b b9 ba", 1, 1, 1, 1, 1, 1, 1, 1, 1, 1),
		of("n no0 noa nob non ye yes0 yess z", 1, 2, 3, 4, 5, 6, 7, 8, 9),
		of(long(1)+" "+long(2)+" "+long(31)+" "+long(32), 1, -2, 3, -4),
		many(2),
		many(63),
		many(64),
	}
}

func TestCheckOfWhatMayBe(t *testing.T) {
	for _, v := range fine() {
		wantCheck(t, v, api.OK)
	}
}

func TestCheckOfUnevenLists(t *testing.T) {
	for _, v := range fine() {
		wantCheck(t, api.Vars{Names: v.Names, Vals: append(slices.Clone(v.Vals), 1)}, api.ErrArg)
		wantCheck(t, api.Vars{Names: append(slices.Clone(v.Names), "zz"), Vals: v.Vals}, api.ErrArg)
	}
	wantCheck(t, api.Vars{Names: []string{"a"}}, api.ErrArg)
	wantCheck(t, api.Vars{Vals: []int64{1}}, api.ErrArg)
	wantCheck(t, of("a b c", 1), api.ErrArg)
	wantCheck(t, of("a", 1, 2, 3), api.ErrArg)
}

func TestCheckOfTooMany(t *testing.T) {
	wantCheck(t, many(65), api.ErrLimit)
	wantCheck(t, many(66), api.ErrLimit)
	wantCheck(t, many(800), api.ErrLimit)
}

func TestCheckOfNoName(t *testing.T) {
	for _, name := range noNames() {
		wantCheck(t, api.Vars{Names: []string{name}, Vals: []int64{1}}, api.ErrArg)
		for at := range 4 { // where the order is right, too, if it may be
			v := api.Vars{Names: slices.Insert([]string{"a", "m", "z"}, at, name), Vals: []int64{1, 2, 3, 4}}
			wantCheck(t, v, api.ErrArg)
			slices.Sort(v.Names)
			wantCheck(t, v, api.ErrArg)
		}
	}
	for at := range 64 {
		v := many(64)
		v.Names[at] += "A"
		wantCheck(t, v, api.ErrArg)
	}
}

func TestCheckOfTheOrder(t *testing.T) {
	for _, names := range []string{
		"a a", "b a", "ab a", "aa a", "a0 a", "aa a0", "a b b", "a a b", "a c b", "b a c", "z y", "b ab", "a1 a09", "ba b",
		long(32) + " " + long(31), long(32) + " " + long(32),
	} {
		n := len(strings.Fields(names))
		wantCheck(t, of(names, make([]int64, n)...), api.ErrArg)
	}
	for at := range 63 {
		v := many(64)
		v.Names[at], v.Names[at+1] = v.Names[at+1], v.Names[at]
		wantCheck(t, v, api.ErrArg)
		v.Names[at] = v.Names[at+1]
		wantCheck(t, v, api.ErrArg)
	}
}

func TestCheckTellsTheFirstError(t *testing.T) {
	uneven := many(65)
	uneven.Vals = uneven.Vals[:64]
	wantCheck(t, uneven, api.ErrArg)
	uneven = many(65)
	uneven.Names = uneven.Names[:64]
	wantCheck(t, uneven, api.ErrArg)
	for _, at := range []int{0, 30, 64} {
		for _, name := range []string{"yes", "no", "", "A", "a", "zz"} { // no name, or one out of order
			v := many(65)
			v.Names[at] = name
			wantCheck(t, v, api.ErrLimit)
		}
	}
}

// 9.2

func TestGet(t *testing.T) {
	for _, v := range fine() {
		for i, name := range v.Names {
			wantGet(t, v, name, v.Vals[i])
			if !slices.Contains(v.Names, name+"0") {
				wantNoGet(t, v, name+"0")
			}
			if !slices.Contains(v.Names, name[:len(name)-1]) {
				wantNoGet(t, v, name[:len(name)-1])
			}
		}
		for _, name := range append(noNames(), "none", "a000", "zzz") {
			wantNoGet(t, v, name)
		}
	}
}

func TestGetOfEachPlace(t *testing.T) {
	v := of("b d f", 10, 0, -30)
	wantGet(t, v, "b", 10)
	wantGet(t, v, "d", 0)
	wantGet(t, v, "f", -30)
	for _, name := range []string{"a", "c", "e", "g", "bb", "dd"} {
		wantNoGet(t, v, name)
	}
	wantGet(t, of("a b", least, greatest), "a", least)
	wantGet(t, of("a b", least, greatest), "b", greatest)
}

// What a list's memory holds behind its length is none of them.
func TestGetLooksNotBehindTheLength(t *testing.T) {
	names, vals := []string{"a", "b", "c"}, []int64{1, 2, 3}
	v := api.Vars{Names: names[:2], Vals: vals[:2]}
	wantGet(t, v, "b", 2)
	wantNoGet(t, v, "c")
}

// 9.3

func TestOfNoneAndOne(t *testing.T) {
	wantOf(t, api.Vars{})
	wantOf(t, api.Vars{}, api.Vars{})
	wantOf(t, api.Vars{}, api.Vars{}, api.Vars{Names: []string{}, Vals: []int64{}}, api.Vars{})
	for _, v := range fine() {
		wantOf(t, v, v)
		wantOf(t, v, v, v)
		wantOf(t, v, v, api.Vars{})
		wantOf(t, v, api.Vars{}, v)
	}
}

func TestOfSeveral(t *testing.T) {
	wantOf(t, of("a b", 1, 2), of("a", 1), of("b", 2))
	wantOf(t, of("a b", 1, 2), of("b", 2), of("a", 1))
	wantOf(t, of("a b c d e", 1, 2, 3, 4, 5), of("b d", 2, 4), of("a c e", 1, 3, 5))
	wantOf(t, of("a b c", 1, 20, 30), of("a b", 1, 2), of("b c", 20, 30))
	wantOf(t, of("a b c", 1, 2, 30), of("b c", 20, 30), of("a b", 1, 2))
	wantOf(t, of("a", 3), of("a", 1), of("a", 2), of("a", 3))
	wantOf(t, of("a", 1), of("a", 3), of("a", 2), of("a", 1))
	wantOf(t, of("a b c", 0, -5, 9), of("a b", 1, 2), of("b c", 3, 9), of("b", -5), of("a", 0))
	wantOf(t, of("a a0 aa ab", 1, 2, 3, 4), of("a ab", 1, 4), of("aa", 3), of("a0", 2))
	wantOf(t, of("a b", least, greatest), of("a b", greatest, least), of("a", least), of("b", greatest))
}

func TestOfAsManyAsThereAre(t *testing.T) {
	var l []api.Vars
	whole := many(64)
	for i := range 64 { // the last first, each twice, and the second one holds
		l = append(l, api.Vars{Names: whole.Names[63-i : 64-i], Vals: []int64{99}}, api.Vars{Names: whole.Names[63-i : 64-i], Vals: whole.Vals[63-i : 64-i]})
	}
	wantOf(t, whole, l...)
	for range 1000 {
		l = append(l, whole)
	}
	wantOf(t, whole, l...)
	wantNoOf(t, api.ErrArg, append(l, of("no", 1))...)
	wantNoOf(t, api.ErrLimit, append(l, of("a", 1))...)
}

func TestOfTooManyTogether(t *testing.T) {
	whole := many(66)
	first := func(n int) api.Vars { return api.Vars{Names: whole.Names[:n], Vals: whole.Vals[:n]} }
	last := func(n int) api.Vars { return api.Vars{Names: whole.Names[n:], Vals: whole.Vals[n:]} }
	wantOf(t, first(64), first(64), first(10))
	wantOf(t, first(64), first(30), first(64))
	wantOf(t, last(2), last(40), last(2))
	wantNoOf(t, api.ErrLimit, first(64), last(65))
	wantNoOf(t, api.ErrLimit, first(64), last(64))
	wantNoOf(t, api.ErrLimit, last(65), first(64))
	wantNoOf(t, api.ErrLimit, first(33), last(33))
	wantNoOf(t, api.ErrLimit, first(64), last(3))
	wantNoOf(t, api.ErrLimit, first(64), last(64), first(1))
	wantNoOf(t, api.ErrLimit, first(64), of("a", 1))
	wantOf(t, many(64), many(32), api.Vars{Names: whole.Names[32:64], Vals: whole.Vals[32:64]})
}

func TestOfOneThatMayNotBe(t *testing.T) {
	uneven := api.Vars{Names: []string{"a"}}
	for _, c := range []struct {
		v   api.Vars
		err api.Errno
	}{
		{uneven, api.ErrArg}, {of("a", 1, 2), api.ErrArg}, {many(65), api.ErrLimit}, {of("no", 1), api.ErrArg},
		{of("b a", 1, 2), api.ErrArg}, {of("a a", 1, 1), api.ErrArg}, {of("A", 1), api.ErrArg},
	} {
		wantNoOf(t, c.err, c.v)
		wantNoOf(t, c.err, c.v, of("a", 1))
		wantNoOf(t, c.err, of("a", 1), c.v)
		wantNoOf(t, c.err, of("a", 1), of("b", 1), c.v, of("c", 1))
		wantNoOf(t, c.err, many(64), of("a", 1), c.v) // ahead of what all are together
		wantNoOf(t, c.err, c.v, many(65))
		wantNoOf(t, c.err, c.v, of("yes", 1))
		wantNoSet(t, c.v, "a", c.err)
		wantNoSet(t, c.v, "no", c.err)
	}
	wantNoOf(t, api.ErrLimit, many(65), uneven)
	wantNoOf(t, api.ErrArg, uneven, many(65))
}

func TestSet(t *testing.T) {
	wantSet(t, api.Vars{}, "a", 7, of("a", 7))
	wantSet(t, of("b d", 1, 2), "a", 7, of("a b d", 7, 1, 2))
	wantSet(t, of("b d", 1, 2), "c", 7, of("b c d", 1, 7, 2))
	wantSet(t, of("b d", 1, 2), "e", 7, of("b d e", 1, 2, 7))
	wantSet(t, of("b d", 1, 2), "b", 7, of("b d", 7, 2))
	wantSet(t, of("b d", 1, 2), "d", 0, of("b d", 1, 0))
	wantSet(t, of("b d", 1, 2), "d", 2, of("b d", 1, 2))
	wantSet(t, of("b d", 1, 2), "bb", least, of("b bb d", 1, least, 2))
	wantSet(t, of("b d", 1, 2), "b", greatest, of("b d", greatest, 2))
	wantSet(t, of("b", 1), long(32), 2, of("b "+long(32), 1, 2))
}

func TestSetOfNone(t *testing.T) {
	for _, v := range fine() {
		for _, name := range noNames() {
			wantNoSet(t, v, name, api.ErrArg)
		}
	}
}

func TestSetAtTheLimit(t *testing.T) {
	v := many(64)
	wantSet(t, v, "v163", 5, api.Vars{Names: v.Names, Vals: append(slices.Clone(v.Vals[:63]), 5)})
	wantNoSet(t, v, "v164", api.ErrLimit)
	wantNoSet(t, v, "a", api.ErrLimit)
	wantNoSet(t, v, "no", api.ErrArg)
	wantSet(t, many(63), "v163", v.Vals[63], v)
	wantNoSet(t, many(65), "v100", api.ErrLimit)
}

// 9.4

func TestDiff(t *testing.T) {
	for _, v := range fine() {
		wantDiff(t, v, v, api.Vars{})
		wantDiff(t, v, copied(v), api.Vars{})
		wantDiff(t, api.Vars{}, v, v)
	}
	wantDiff(t, of("a b c", 1, 2, 3), of("a b c", 1, 5, 3), of("b", 5))
	wantDiff(t, of("a b c", 1, 2, 3), of("a b c", 0, 2, -3), of("a c", 0, -3))
	wantDiff(t, of("a b c", 1, 2, 3), of("a b c", 3, 1, 2), of("a b c", 3, 1, 2))
	wantDiff(t, of("b d", 1, 2), of("a b c d e", 0, 1, 0, 2, 0), of("a c e", 0, 0, 0))
	wantDiff(t, of("b d", 1, 2), of("a b c d e", 7, 1, 8, 3, 9), of("a c d e", 7, 8, 3, 9))
	wantDiff(t, of("b", 0), of("a b bb", 0, 0, 0), of("a bb", 0, 0))
	wantDiff(t, of("a b", least, greatest), of("a b", greatest, least), of("a b", greatest, least))
	wantDiff(t, many(63), many(64), api.Vars{Names: many(64).Names[63:], Vals: many(64).Vals[63:]})
}

func TestDiffOfOneThatIsNone(t *testing.T) {
	wantNoDiff(t, of("a", 1), api.Vars{}, api.ErrNone)
	wantNoDiff(t, of("a", 1), of("b", 1), api.ErrNone)
	wantNoDiff(t, of("b", 1), of("a", 1), api.ErrNone)
	wantNoDiff(t, of("a b", 1, 2), of("a", 1), api.ErrNone)
	wantNoDiff(t, of("a b", 1, 2), of("b", 2), api.ErrNone)
	wantNoDiff(t, of("a b c", 1, 2, 3), of("a c d", 1, 3, 4), api.ErrNone)
	wantNoDiff(t, of("a", 1), of("aa", 1), api.ErrNone)
	wantNoDiff(t, of("aa", 1), of("a", 1), api.ErrNone)
	wantNoDiff(t, of("a c", 1, 2), of("a b", 5, 6), api.ErrNone)
	wantNoDiff(t, many(64), many(63), api.ErrNone)
}

func TestDiffOfWhatMayNotBe(t *testing.T) {
	arg, limit := of("no", 1), many(65)
	for _, v := range []api.Vars{{}, of("a", 1), many(64)} {
		wantNoDiff(t, arg, v, api.ErrArg)
		wantNoDiff(t, v, arg, api.ErrArg)
		wantNoDiff(t, limit, v, api.ErrLimit)
		wantNoDiff(t, v, limit, api.ErrLimit)
	}
	wantNoDiff(t, arg, limit, api.ErrArg)
	wantNoDiff(t, limit, arg, api.ErrLimit)
	wantNoDiff(t, api.Vars{Names: []string{"a"}}, limit, api.ErrArg)
	wantNoDiff(t, of("x", 1), of("b a", 1, 2), api.ErrArg) // ahead of ErrNone
	wantNoDiff(t, of("a a", 1, 1), of("a", 1), api.ErrArg)
	wantNoDiff(t, of("a", 1), of("a", 1, 2), api.ErrArg)
}

// 9.5

func TestPutKnownBytes(t *testing.T) {
	for _, c := range []struct {
		v api.Vars
		b []byte
	}{
		{api.Vars{}, []byte{0}},
		{of("a", 0), []byte{1, 1, 'a', 0}},
		{of("a b", -1, 5), []byte{2, 1, 'a', 1, 1, 'b', 10}},
		{of("paid", 150), []byte{1, 4, 'p', 'a', 'i', 'd', 172, 2}},
		{of("a", least), []byte{1, 1, 'a', 255, 255, 255, 255, 255, 255, 255, 255, 255, 1}},
		{of("a", greatest), []byte{1, 1, 'a', 254, 255, 255, 255, 255, 255, 255, 255, 255, 1}},
	} {
		if b := Put(nil, c.v); !bytes.Equal(b, c.b) {
			t.Errorf("Put(nil, %v) = %v, want %v", c.v, b, c.b)
		}
		wantRead(t, c.b, c.v, nil)
	}
}

func TestPutBehindBytes(t *testing.T) {
	for _, v := range fine() {
		for _, ahead := range [][]byte{nil, {}, {0}, {128, 255}, []byte("bytes ahead")} {
			for _, room := range []int{0, 1, 3, 5000} {
				b := roomy(ahead, make([]byte, room))
				if got, want := Put(b, v), slices.Concat(ahead, written(v)); !bytes.Equal(got, want) || !bytes.Equal(b, ahead) {
					t.Errorf("Put(%v, %v) with room for %d = %v, want %v", ahead, v, room, got, want)
				}
			}
		}
	}
}

// 9.6

func TestReadWhatIsWritten(t *testing.T) {
	for _, v := range fine() {
		for _, behind := range [][]byte{nil, {0}, {9}, {128}, {1, 1, 'a', 0}, []byte("what lies behind")} {
			wantRead(t, slices.Concat(written(v), behind), v, behind)
			wantRead(t, slices.Concat(Put(nil, v), behind), v, behind)
		}
	}
}

func TestReadOfBytesCutShort(t *testing.T) {
	for _, v := range fine() {
		b := written(v)
		for k := range b {
			wantNoRead(t, roomy(b[:k], b[k:]), api.ErrShort) // what lies behind the length is not read
			wantNoRead(t, slices.Clone(b[:k]), api.ErrShort)
		}
	}
	wantNoRead(t, nil, api.ErrShort)
}

func TestReadOfTooMany(t *testing.T) {
	for _, n := range []uint64{65, 66, 127, 128, 1 << 20, 1 << 32, 1<<32 + 1, 1 << 63, 1<<63 + 1, math.MaxUint64} {
		row := binary.AppendUvarint(nil, n)
		wantNoRead(t, row, api.ErrLimit)
		wantNoRead(t, slices.Concat(row, written(many(64))[1:]), api.ErrLimit)
		wantNoRead(t, slices.Concat(row, []byte{129, 0}), api.ErrLimit)
	}
	wantNoRead(t, written(many(65)), api.ErrLimit)
	wantNoRead(t, written(many(200)), api.ErrLimit)
	wantNoRead(t, written(of("b a "+strings.Join(many(63).Names, " "), make([]int64, 65)...)), api.ErrLimit)
	wantNoRead(t, []byte{64}, api.ErrShort)
	wantNoRead(t, slices.Concat([]byte{64}, written(many(63))[1:]), api.ErrShort)
}

func TestReadOfWhatMayNotBe(t *testing.T) {
	for _, name := range noNames() {
		wantNoRead(t, written(api.Vars{Names: []string{name}, Vals: []int64{1}}), api.ErrArg)
		wantNoRead(t, written(api.Vars{Names: []string{"a", name}, Vals: []int64{1, 2}}), api.ErrArg)
		wantNoRead(t, written(api.Vars{Names: []string{name, "zz"}, Vals: []int64{1, 2}}), api.ErrArg)
	}
	for _, names := range []string{"a a", "b a", "ab a", "a c b", "a b b", "a a0 a"} {
		n := len(strings.Fields(names))
		b := written(of(names, make([]int64, n)...))
		wantNoRead(t, b, api.ErrArg)
		wantNoRead(t, append(b, 1, 2, 3), api.ErrArg)
	}
}

func TestReadOfOtherRows(t *testing.T) {
	nine := bytes.Repeat([]byte{255}, 9)
	for _, row := range [][]byte{{128, 0}, {129, 0}, {129, 128, 0}, append(slices.Clone(nine), 2), append(slices.Clone(nine), 128), append(slices.Clone(nine), 0)} {
		wantNoRead(t, row, api.ErrRange)
		wantNoRead(t, slices.Concat(row, []byte{1, 'a', 0, 0}), api.ErrRange)
		wantNoRead(t, slices.Concat([]byte{1}, row, []byte{'a', 0, 0}), api.ErrRange)
		wantNoRead(t, slices.Concat([]byte{1, 1, 'a'}, row), api.ErrRange)
		wantNoRead(t, slices.Concat([]byte{1, 1, 'a'}, row, []byte{0, 0}), api.ErrRange)
		wantNoRead(t, slices.Concat([]byte{2, 1, 'a', 0, 1, 'b'}, row), api.ErrRange)
	}
	wantNoRead(t, slices.Concat([]byte{1}, binary.AppendUvarint(nil, math.MaxUint64), []byte("a")), api.ErrShort)
	wantNoRead(t, slices.Concat([]byte{1}, binary.AppendUvarint(nil, 1<<63+1), []byte{'a', 0}), api.ErrShort)
}

func TestReadTellsTheFirstError(t *testing.T) {
	wantNoRead(t, []byte{2, 1, 'a', 128, 0, 1}, api.ErrRange)      // a number, ahead of a name that is cut short
	wantNoRead(t, []byte{2, 9, 'a', 128, 0}, api.ErrShort)         // a name, ahead of its number
	wantNoRead(t, []byte{2, 1, 'A', 0}, api.ErrShort)              // no name, told at last
	wantNoRead(t, []byte{2, 1, 'A', 0, 1, 'b', 128}, api.ErrShort) // likewise
	wantNoRead(t, []byte{2, 0, 0, 1, 'b', 128, 0}, api.ErrRange)   // likewise
	wantNoRead(t, []byte{2, 1, 'b', 0, 1, 'a', 128}, api.ErrShort) // out of order, told at last
	wantNoRead(t, []byte{2, 1, 'b', 0, 1, 'a', 0}, api.ErrArg)     // where all is there
	wantNoRead(t, []byte{193, 0}, api.ErrRange)                    // too many, in no row
	wantNoRead(t, []byte{193, 1, 5}, api.ErrLimit)                 // too many, ahead of a name that is cut short
	wantNoRead(t, []byte{65, 1, 'a', 128, 0}, api.ErrLimit)        // and ahead of a number in no row
}

// 9.7

func TestSame(t *testing.T) {
	list := fine()[1:]
	for i, a := range list {
		for k, b := range list {
			if Same(a, copied(b)) != (i == k) {
				t.Errorf("Same(%v, %v) is %v", a, b, i != k)
			}
		}
	}
	for _, c := range [][2]api.Vars{
		{of("a", 1), of("b", 1)},
		{of("a", 1), of("a", 2)},
		{of("a", 1), of("a", -1)},
		{of("a", 0), api.Vars{}},
		{of("a b", 1, 2), of("a", 1)},
		{of("a b", 1, 2), of("b", 2)},
		{of("a b", 1, 2), of("a b", 2, 1)},
		{of("a b", 1, 2), of("a bb", 1, 2)},
		{of("a b c", 1, 2, 3), of("a x c", 1, 2, 3)},
		{of("a b c", 1, 2, 3), of("a b c", 1, 0, 3)},
		{of("a", greatest), of("a", least)},
	} {
		if Same(c[0], c[1]) || Same(c[1], c[0]) {
			t.Errorf("%v and %v are the same", c[0], c[1])
		}
	}
}

// Same and Copy are promised of all variables, whether they may be or not.
func odd() []api.Vars {
	return []api.Vars{
		{Names: []string{"a"}},
		{Vals: []int64{1}},
		of("a b", 1),
		of("a", 1, 2),
		of("b a", 1, 2),
		of("yes no", 1, 2),
		{Names: []string{"", "A"}, Vals: []int64{0, 0}},
		many(65),
	}
}

func TestSameOfWhatMayNotBe(t *testing.T) {
	list := append(odd(), of("a b", 1, 2), of("a", 1), api.Vars{})
	for i, a := range list {
		for k, b := range list {
			if Same(a, copied(b)) != (i == k) {
				t.Errorf("Same(%v, %v) is %v", a, b, i != k)
			}
		}
	}
}

func TestSameOfEmptyLists(t *testing.T) {
	empty := api.Vars{Names: []string{}, Vals: []int64{}}
	behind := api.Vars{Names: []string{"a"}[:0], Vals: []int64{1}[:0]}
	for _, a := range []api.Vars{{}, empty, behind} {
		for _, b := range []api.Vars{{}, empty, behind} {
			if !Same(a, b) {
				t.Errorf("Same(%#v, %#v) is false", a, b)
			}
		}
	}
}

func TestCopy(t *testing.T) {
	for _, v := range append(fine(), odd()...) {
		before := copied(v)
		c := Copy(v)
		if !equal(c, v) || !Same(c, v) {
			t.Errorf("Copy(%v) = %v", v, c)
		}
		for i := range c.Names {
			c.Names[i] = "turned"
		}
		for i := range c.Vals {
			c.Vals[i] = 77
		}
		if !equal(v, before) {
			t.Errorf("%v turned with its copy to %v", before, v)
		}
	}
}

// 9.8, and all of it against a map.

// chance is variables and bytes by chance, the same in each run.
type chance struct{ at uint64 }

func dice(seed int) *chance {
	return &chance{at: uint64(seed)*6364136223846793005 + 1442695040888963407}
}

func (c *chance) next(n int) int {
	c.at = c.at*6364136223846793005 + 1442695040888963407
	return int(c.at>>33) % n
}

func (c *chance) number() int64 {
	return []int64{0, 1, -1, 2, 63, 64, -64, -65, 300, 1 << 40, least, least + 1, greatest, greatest - 1}[c.next(14)]
}

// set is at most n variables by a map, of names of which many begin alike.
func (c *chance) set(n int) map[string]int64 {
	m := map[string]int64{}
	for range c.next(n + 1) {
		name := ""
		for range 1 + c.next(3) {
			name += "abz"[c.next(3):][:1]
		}
		if c.next(3) == 0 {
			name += strconv.Itoa(c.next(12))
		}
		m[name] = c.number()
	}
	return m
}

// listed is a map's variables, by the order of their names.
func listed(m map[string]int64) api.Vars {
	var v api.Vars
	for name := range m {
		v.Names = append(v.Names, name)
	}
	slices.Sort(v.Names)
	for _, name := range v.Names {
		v.Vals = append(v.Vals, m[name])
	}
	return v
}

func TestOfAgainstMaps(t *testing.T) {
	full := 0
	for seed := range 3000 {
		c := dice(seed)
		var l, before []api.Vars
		all := map[string]int64{}
		for range c.next(8) {
			m := c.set(1 + c.next(64))
			for name, n := range m {
				all[name] = n
			}
			l = append(l, listed(m))
			before = append(before, listed(m))
		}
		if len(all) > 64 {
			full++
			wantNoOf(t, api.ErrLimit, l...)
		} else {
			wantOf(t, listed(all), l...)
		}
		for i, v := range l {
			if !equal(v, before[i]) {
				t.Fatalf("Of changed %v to %v", before[i], v)
			}
		}
	}
	if full < 100 || full > 2900 {
		t.Errorf("%d of 3000 were too many together", full)
	}
}

func TestGetSetAndDiffAgainstMaps(t *testing.T) {
	none := 0
	for seed := range 3000 {
		c := dice(seed)
		from, more := c.set(12), c.set(12)
		to := map[string]int64{}
		for name, n := range from {
			if c.next(60) > 0 {
				to[name] = n
			}
		}
		for name, n := range more {
			to[name] = n
			m := listed(from)
			if n, found := from[name]; found {
				wantGet(t, m, name, n)
			} else {
				wantNoGet(t, m, name)
			}
		}
		a, b := listed(from), listed(to)
		changed, lost := map[string]int64{}, false
		for name, n := range to {
			if was, found := from[name]; !found || was != n {
				changed[name] = n
			}
		}
		for name := range from {
			_, found := to[name]
			lost = lost || !found
		}
		if lost {
			none++
			wantNoDiff(t, a, b, api.ErrNone)
		} else {
			wantDiff(t, a, b, listed(changed))
			wantOf(t, b, a, listed(changed)) // what Diff tells, put to from, is to
		}
		name, n := "b"+strconv.Itoa(c.next(12)), c.number()
		from[name] = n
		wantSet(t, a, name, n, listed(from))
	}
	if none < 100 || none > 2900 {
		t.Errorf("of %d of 3000 one was none", none)
	}
}

func TestThereAndBack(t *testing.T) {
	var b []byte
	var list []api.Vars
	for seed := range 1000 {
		v := listed(dice(seed).set(60))
		if got := Put(nil, v); !bytes.Equal(got, written(v)) {
			t.Fatalf("Put(nil, %v) = %v, want %v", v, got, written(v))
		}
		b = Put(b, v)
		list = append(list, v)
	}
	for _, v := range list { // many behind one another are read one by one
		got, rest, err := Read(b)
		wantVars(t, "Read", got, err, v)
		b = rest
	}
	if len(b) != 0 {
		t.Errorf("%d bytes are left", len(b))
	}
}

// Bytes that are read are those that are written, whatever they look like.
func TestReadInOneWayAlone(t *testing.T) {
	read := 0
	try := func(b []byte) {
		v, rest, err := Read(b)
		if err != api.OK {
			return
		}
		read++
		if again := slices.Concat(Put(nil, v), rest); !bytes.Equal(again, b) {
			t.Fatalf("%v is read as %v, and written %v", b, v, again)
		}
		if err := Check(v); err != api.OK {
			t.Fatalf("%v is read as %v: %d", b, v, err)
		}
	}
	for seed := range 20000 {
		c := dice(seed)
		b := written(listed(c.set(6)))
		for range c.next(3) { // a byte is turned, one is put in, one is left out
			at := c.next(len(b))
			switch c.next(3) {
			case 0:
				b[at] = byte(c.next(256))
			case 1:
				b = slices.Insert(b, at, byte([]int{0, 1, 128, 129, 255, 'a', 'b'}[c.next(7)]))
			default:
				b = append(slices.Delete(b, at, at+1), 0)
			}
		}
		try(b)
	}
	if read < 5000 || read > 19000 {
		t.Errorf("%d of 20000 were read", read)
	}
	for c := range 256 {
		for d := range 256 {
			try([]byte{1, byte(c), 'a', byte(d), 0})
			try([]byte{1, 1, byte(c), byte(d), 0, 1})
			try([]byte{1, 1, 'b', byte(c), byte(d), 1})
			try([]byte{byte(c), byte(d), 1, 'b', 0, 0})
		}
	}
}

// R2, R3, P0, P6

// within: does a text lie in the memory of some bytes?
func within(s string, all []byte) bool {
	at, from := uintptr(unsafe.Pointer(unsafe.StringData(s))), uintptr(unsafe.Pointer(unsafe.SliceData(all)))
	return s != "" && from <= at && at < from+uintptr(cap(all))
}

// What is answered is new memory, also that of names.
func TestNewMemory(t *testing.T) {
	text := []byte("abcdefgh")
	all := unsafe.String(unsafe.SliceData(text), len(text))
	v := api.Vars{Names: []string{all[:2], all[2:5]}, Vals: []int64{1, 2}}
	w := api.Vars{Names: []string{all[:2], all[1:3], all[2:5]}, Vals: []int64{1, 5, 3}}
	beforeV, beforeW := copied(v), copied(w)
	answers := map[string]func() api.Vars{
		"Of one":       func() api.Vars { a, _ := Of(v); return a },
		"Of two":       func() api.Vars { a, _ := Of(v, w); return a },
		"Of empty":     func() api.Vars { a, _ := Of(api.Vars{}, v); return a },
		"Set":          func() api.Vars { a, _ := Set(v, all[3:6], 4); return a },
		"Set of same":  func() api.Vars { a, _ := Set(v, all[:2], 1); return a },
		"Diff":         func() api.Vars { a, _ := Diff(v, w); return a },
		"Diff of none": func() api.Vars { a, _ := Diff(api.Vars{}, v); return a },
		"Copy":         func() api.Vars { return Copy(w) },
	}
	for what, answer := range answers {
		first, second := answer(), answer()
		want := copied(first)
		for _, name := range first.Names {
			if within(name, text) {
				t.Errorf("%s: %q lies in an argument's memory", what, name)
			}
		}
		for i := range second.Names {
			second.Names[i], second.Vals[i] = "turned", 99
		}
		_ = append(append(second.Names, "x"), "y")
		_ = append(append(second.Vals, 98), 97)
		if !equal(first, want) || !equal(v, beforeV) || !equal(w, beforeW) {
			t.Errorf("%s: an answer shares memory", what)
		}
	}
}

func TestReadIsNewMemory(t *testing.T) {
	v := of("ab cde", 1, 2)
	b := append(written(v), 7, 8, 9)
	before := slices.Clone(b)
	got, rest, err := Read(b)
	for _, name := range got.Names {
		if within(name, b) {
			t.Errorf("%q lies in the bytes' memory", name)
		}
	}
	rest[0] = 70
	_ = append(rest, 71)
	if !bytes.Equal(b, before) {
		t.Errorf("the bytes turned to %v", b)
	}
	for i := range b {
		b[i] = 200
	}
	wantVars(t, "Read", got, err, v)
	if !bytes.Equal(rest, []byte{70, 8, 9}) {
		t.Errorf("the bytes behind turned to %v", rest)
	}
}

func TestReadChangesNothing(t *testing.T) {
	for _, v := range append(fine(), of("b a", 1, 2), of("no", 1), many(65)) {
		b := written(v)
		for k := range len(b) + 1 {
			cut, whole := slices.Clone(b)[:k], slices.Clone(b)
			Read(cut)
			if !bytes.Equal(cut[:len(b)], whole) {
				t.Fatalf("Read changed %v to %v", whole, cut[:len(b)])
			}
		}
	}
}

// What a list's memory holds behind its length is neither read, nor written.
func TestBehindTheLength(t *testing.T) {
	names, vals := []string{"b", "d", "a", "no"}, []int64{1, 2, 3, 4}
	v := api.Vars{Names: names[:2], Vals: vals[:2]}
	want := of("b d", 1, 2)
	wantCheck(t, v, api.OK)
	wantOf(t, want, v)
	wantOf(t, of("a b c d", 0, 1, 9, 2), v, of("a c", 0, 9))
	wantSet(t, v, "e", 5, of("b d e", 1, 2, 5))
	wantSet(t, v, "a", 5, of("a b d", 5, 1, 2))
	wantDiff(t, v, of("a b d", 3, 1, 0), of("a d", 3, 0))
	wantDiff(t, of("b", 1), v, of("d", 2))
	if !Same(v, want) || !equal(Copy(v), want) || !bytes.Equal(Put(nil, v), written(want)) {
		t.Errorf("%v is taken for another one", v)
	}
	if !slices.Equal(names, []string{"b", "d", "a", "no"}) || !slices.Equal(vals, []int64{1, 2, 3, 4}) {
		t.Errorf("the lists were changed: %q, %v", names, vals)
	}
}

// The list of variables that Of is handed is left as it is, also where it is a caller's own.
func TestOfLeavesItsList(t *testing.T) {
	l := []api.Vars{of("b", 1), of("a b", 2, 3), of("z", 4)}
	wantOf(t, of("a b", 2, 3), l[:2]...)
	if !equal(l[0], of("b", 1)) || !equal(l[1], of("a b", 2, 3)) || !equal(l[2], of("z", 4)) {
		t.Errorf("the list was changed to %v", l)
	}
}

// Of variables that may not be Get and Put promise nothing, but they end, and none panics.
func TestWhatMayNotBeEnds(t *testing.T) {
	for _, v := range odd() {
		before := copied(v)
		for _, name := range slices.Concat(v.Names, []string{"a", "b", "", "v164"}) {
			Get(v, name)
		}
		Put(nil, v)
		Put([]byte{1, 2}, v)
		if !equal(v, before) {
			t.Errorf("%v was changed to %v", before, v)
		}
	}
}

// The same call answers the same, whatever came ahead of it.
func TestCallsDoNotHangOnOthers(t *testing.T) {
	for seed := range 300 {
		c := dice(seed)
		v, w := listed(c.set(20)), listed(c.set(20))
		all, err := Of(v, w)
		diff, errDiff := Diff(v, all)
		b := Put(nil, w)
		Of(w, v, many(65))
		Set(all, "no", 1)
		Read(append(b, b...))
		again, errAgain := Of(v, w)
		diffAgain, errDiffAgain := Diff(v, all)
		if !equal(all, again) || err != errAgain || !equal(diff, diffAgain) || errDiff != errDiffAgain || !bytes.Equal(b, Put(nil, w)) {
			t.Errorf("twice, of %v and %v: %v, %d and %v, %d", v, w, all, err, again, errAgain)
		}
	}
}
