package disk

import (
	"bytes"
	"math"
	"slices"
	"strings"
	"testing"

	"funicular/api"
)

// noNames is texts that are no names: none, too long, a first byte or a later one that may not stand there.
func noNames() []string {
	return []string{
		"", strings.Repeat("a", api.MaxName+1), strings.Repeat("a", 4096),
		"1", "1a", "A", "aB", "a b", " a", "a ", "a-b", "a_b", "_a", "a.b", "a/b", ".", "..", "a\x00", "\x00", "a\n", "ä", "aä", "a\xff", "`", "{", "a:", "a`", "a{",
	}
}

// okNames is texts that are names, the shortest and the longest among them.
func okNames() []string {
	return []string{"a", "z", "a0", "a9", "zz", "wal7", strings.Repeat("a", api.MaxName), "z" + strings.Repeat("9", api.MaxName-1)}
}

// must fails the test, if a call was refused.
func must(t *testing.T, what string, e api.Errno) {
	t.Helper()
	if e != api.OK {
		t.Fatalf("%s: error %d", what, e)
	}
}

// want fails the test, if a file has other bytes, or others of them are not synced.
func want(t *testing.T, d *Disk, name string, b []byte, loose int) {
	t.Helper()
	if got := d.Read(name); !bytes.Equal(got, b) {
		t.Errorf("%q: %v, want %v", name, got, b)
	}
	if got := d.Loose(name); got != loose {
		t.Errorf("%q: %d loose, want %d", name, got, loose)
	}
}

// wantNames fails the test, if a disk has other files.
func wantNames(t *testing.T, d *Disk, names ...string) {
	t.Helper()
	if got := d.Names(); !slices.Equal(got, names) {
		t.Errorf("names %q, want %q", got, names)
	}
}

// half is a disk with one file of which so many bytes are synced, and so many behind them are not: 1, 2, and so on.
func half(t *testing.T, name string, synced, loose int) *Disk {
	t.Helper()
	d := New()
	add(t, d, name, synced, loose)
	return d
}

func add(t *testing.T, d *Disk, name string, synced, loose int) {
	t.Helper()
	b := rising(synced + loose)
	must(t, "append", d.Append(name, b[:synced]))
	must(t, "sync", d.Sync(name))
	must(t, "append", d.Append(name, b[synced:]))
}

// rising is the bytes 1, 2, and so on, n of them.
func rising(n int) []byte {
	b := make([]byte, n)
	for i := range b {
		b[i] = byte(i + 1)
	}
	return b
}

func TestExample(t *testing.T) {
	d := New()
	must(t, "append", d.Append("a", []byte{1, 2}))
	must(t, "sync", d.Sync("a"))
	must(t, "append", d.Append("a", []byte{3, 4, 5}))
	d.Crash([]int{1})
	want(t, d, "a", []byte{1, 2, 3}, 0)
	wantNames(t, d, "a")
}

// 4.1

func TestNewHasNoFiles(t *testing.T) {
	d := New()
	wantNames(t, d)
	want(t, d, "a", nil, 0)
	d.Crash([]int{1, 2})
	wantNames(t, d)
}

func TestDisksAreApart(t *testing.T) {
	d, other := New(), New()
	must(t, "append", d.Append("a", []byte{1}))
	wantNames(t, other)
	want(t, other, "a", nil, 0)
	must(t, "append", other.Append("a", []byte{2}))
	must(t, "sync", other.Sync("a"))
	want(t, d, "a", []byte{1}, 1)
	want(t, other, "a", []byte{2}, 0)
}

func TestTheZeroDiskHasNoFiles(t *testing.T) {
	var d Disk
	wantNames(t, &d)
	want(t, &d, "a", nil, 0)
	d.Crash(nil)
	if e := d.Sync("a"); e != api.ErrNone {
		t.Errorf("sync: %d", e)
	}
	must(t, "replace by none", d.Replace("a", nil))
	must(t, "append", d.Append("a", []byte{1}))
	want(t, &d, "a", []byte{1}, 1)
}

func TestAppendStandsBehind(t *testing.T) {
	d := New()
	must(t, "append", d.Append("a", []byte{1, 2}))
	want(t, d, "a", []byte{1, 2}, 2)
	must(t, "append behind what is not synced", d.Append("a", []byte{3}))
	want(t, d, "a", []byte{1, 2, 3}, 3)
	must(t, "sync", d.Sync("a"))
	must(t, "append behind what is synced", d.Append("a", []byte{4, 5}))
	want(t, d, "a", []byte{1, 2, 3, 4, 5}, 2)
	must(t, "append behind both", d.Append("a", []byte{6}))
	want(t, d, "a", []byte{1, 2, 3, 4, 5, 6}, 3)
	wantNames(t, d, "a")
}

func TestAppendOfNoBytes(t *testing.T) {
	for _, none := range [][]byte{nil, {}, rising(3)[:0]} {
		d := New()
		must(t, "append of none", d.Append("a", none))
		wantNames(t, d, "a")
		want(t, d, "a", nil, 0)
		must(t, "sync of a file without bytes", d.Sync("a"))
		wantNames(t, d, "a")
		want(t, d, "a", nil, 0)
		must(t, "append", d.Append("a", []byte{1}))
		must(t, "append of none", d.Append("a", none))
		want(t, d, "a", []byte{1}, 1)
		must(t, "sync", d.Sync("a"))
		must(t, "append of none", d.Append("a", none))
		want(t, d, "a", []byte{1}, 0)
		wantNames(t, d, "a")
	}
}

func TestAppendToOneFileAlone(t *testing.T) {
	d := New()
	for i, name := range okNames() {
		must(t, name, d.Append(name, []byte{byte(i)}))
	}
	must(t, "sync", d.Sync("a0"))
	must(t, "append", d.Append("zz", []byte{77}))
	for i, name := range okNames() {
		switch name {
		case "a0":
			want(t, d, name, []byte{byte(i)}, 0)
		case "zz":
			want(t, d, name, []byte{byte(i), 77}, 2)
		default:
			want(t, d, name, []byte{byte(i)}, 1)
		}
	}
}

func TestAppendToNoName(t *testing.T) {
	for _, name := range noNames() {
		for _, b := range [][]byte{nil, {1}} {
			d := half(t, "a", 1, 1)
			if e := d.Append(name, b); e != api.ErrArg {
				t.Errorf("%q: error %d, want ErrArg", name, e)
			}
			want(t, d, name, nil, 0)
			want(t, d, "a", []byte{1, 2}, 1)
			wantNames(t, d, "a")
		}
	}
}

func TestAppendToNames(t *testing.T) {
	for _, name := range okNames() {
		d := New()
		must(t, name, d.Append(name, []byte{1}))
		wantNames(t, d, name)
		want(t, d, name, []byte{1}, 1)
	}
}

// 4.2

func TestSync(t *testing.T) {
	d := half(t, "a", 2, 3)
	add(t, d, "b", 1, 1)
	want(t, d, "a", rising(5), 3)
	must(t, "sync", d.Sync("a"))
	want(t, d, "a", rising(5), 0)
	want(t, d, "b", rising(2), 1)
	must(t, "sync of what is synced", d.Sync("a"))
	want(t, d, "a", rising(5), 0)
	d.Crash(nil)
	want(t, d, "a", rising(5), 0)
	want(t, d, "b", rising(1), 0)
}

func TestSyncOfNoFile(t *testing.T) {
	d := half(t, "b", 1, 1)
	for _, name := range append(noNames(), "a", "c", "bb", "b0", strings.Repeat("b", api.MaxName)) {
		if e := d.Sync(name); e != api.ErrNone {
			t.Errorf("%q: error %d, want ErrNone", name, e)
		}
		want(t, d, name, nil, 0)
	}
	want(t, d, "b", []byte{1, 2}, 1)
	wantNames(t, d, "b")
}

func TestSyncOfAFileThatWas(t *testing.T) {
	d := half(t, "a", 1, 1)
	must(t, "replace by none", d.Replace("a", nil))
	if e := d.Sync("a"); e != api.ErrNone {
		t.Errorf("replaced by none: %d", e)
	}
	must(t, "append", d.Append("a", []byte{1}))
	d.Crash(nil)
	if e := d.Sync("a"); e != api.ErrNone {
		t.Errorf("lost in a crash: %d", e)
	}
	wantNames(t, d)
}

// 4.3

func TestReplace(t *testing.T) {
	for _, size := range []int{1, 2, 4, 5, 9} { // fewer bytes than are synced, as many, and more
		d := half(t, "a", 2, 2)
		add(t, d, "b", 1, 1)
		b := bytes.Repeat([]byte{9}, size)
		must(t, "replace", d.Replace("a", b))
		want(t, d, "a", b, 0)
		want(t, d, "b", rising(2), 1)
		wantNames(t, d, "a", "b")
		d.Crash(nil)
		want(t, d, "a", b, 0)
		must(t, "append", d.Append("a", []byte{7}))
		want(t, d, "a", append(slices.Clone(b), 7), 1)
	}
}

func TestReplaceOfNoFile(t *testing.T) {
	for _, name := range okNames() {
		d := New()
		must(t, name, d.Replace(name, []byte{1, 2}))
		want(t, d, name, []byte{1, 2}, 0)
		wantNames(t, d, name)
	}
}

func TestReplaceByNoBytes(t *testing.T) {
	for _, none := range [][]byte{nil, {}, rising(3)[:0]} {
		d := half(t, "a", 1, 1)
		add(t, d, "b", 1, 1)
		add(t, d, "c", 0, 0)
		must(t, "of a file that is there", d.Replace("a", none))
		want(t, d, "a", nil, 0)
		wantNames(t, d, "b", "c")
		must(t, "of one that isn't", d.Replace("a", none))
		must(t, "of one that never was", d.Replace("d", none))
		wantNames(t, d, "b", "c")
		must(t, "of one without bytes", d.Replace("c", none))
		wantNames(t, d, "b")
		want(t, d, "b", rising(2), 1)
	}
}

func TestAFileAnewHasNothingOfTheOld(t *testing.T) {
	d := half(t, "a", 3, 2)
	must(t, "replace by none", d.Replace("a", nil))
	must(t, "append", d.Append("a", nil))
	want(t, d, "a", nil, 0)
	must(t, "append", d.Append("a", []byte{8}))
	want(t, d, "a", []byte{8}, 1)
}

func TestReplaceOfNoName(t *testing.T) {
	for _, name := range noNames() {
		for _, b := range [][]byte{nil, {1}} {
			d := half(t, "a", 1, 1)
			if e := d.Replace(name, b); e != api.ErrArg {
				t.Errorf("%q: error %d, want ErrArg", name, e)
			}
			want(t, d, name, nil, 0)
			want(t, d, "a", []byte{1, 2}, 1)
			wantNames(t, d, "a")
		}
	}
}

// 4.4

func TestReadAndLooseOfNoFile(t *testing.T) {
	d := half(t, "b", 1, 2)
	for _, name := range append(noNames(), "a", "c", "bb") {
		want(t, d, name, nil, 0)
	}
	wantNames(t, d, "b")
}

func TestReadOfManyBytes(t *testing.T) {
	d := New()
	var all []byte
	for i := range 300 {
		b := bytes.Repeat([]byte{byte(i)}, i)
		all = append(all, b...)
		must(t, "append", d.Append("a", b))
		want(t, d, "a", all, len(all))
	}
	must(t, "sync", d.Sync("a"))
	want(t, d, "a", all, 0)
}

// orders is all orders of some names.
func orders(names []string) [][]string {
	if len(names) == 0 {
		return [][]string{nil}
	}
	var list [][]string
	for i, name := range names {
		rest := slices.Concat(names[:i], names[i+1:])
		for _, o := range orders(rest) {
			list = append(list, append([]string{name}, o...))
		}
	}
	return list
}

func TestNamesRiseByteByByte(t *testing.T) {
	sorted := []string{"a", "a0", "a10", "a9", "aa", "b"} // digits lie below letters, a short name below the longer ones that begin with it
	for _, order := range orders(sorted) {
		d := New()
		for i, name := range order {
			if i%2 == 0 {
				must(t, name, d.Append(name, nil))
			} else {
				must(t, name, d.Replace(name, []byte{1}))
			}
			wantNames(t, d, slices.Sorted(slices.Values(order[:i+1]))...)
		}
		wantNames(t, d, sorted...)
		wantNames(t, d, sorted...)
	}
}

func TestNamesOfManyFiles(t *testing.T) {
	d := New()
	var names []string
	for c := 'a'; c <= 'z'; c++ {
		for _, tail := range []string{"", "0", "9", "a", "z", "00", "zz"} {
			names = append(names, string(c)+tail)
		}
	}
	slices.Sort(names)
	for i := range names {
		must(t, "append", d.Append(names[i*101%len(names)], []byte{1}))
	}
	wantNames(t, d, names...)
}

// 4.5

func TestCrashKeeps(t *testing.T) {
	cases := map[string]struct{ synced, loose, keep, left int }{
		"nothing":                 {2, 3, 0, 2},
		"fewer than are loose":    {2, 3, 2, 4},
		"one":                     {2, 3, 1, 3},
		"just as many":            {2, 3, 3, 5},
		"one more":                {2, 3, 4, 5},
		"far more":                {2, 3, 1 << 40, 5},
		"the most":                {2, 3, math.MaxInt, 5},
		"less than 0":             {2, 3, -1, 2},
		"far less than 0":         {2, 3, -3, 2},
		"the least":               {2, 3, math.MinInt, 2},
		"of what is synced":       {4, 0, 0, 4},
		"of what is synced, more": {4, 0, 2, 4},
		"of what is synced, less": {4, 0, -2, 4},
		"none synced, none kept":  {0, 3, 0, 0},
		"none synced, less":       {0, 3, -1, 0},
		"none synced, one kept":   {0, 3, 1, 1},
		"none synced, all kept":   {0, 3, 3, 3},
		"none synced, more":       {0, 3, math.MaxInt, 3},
		"no bytes":                {0, 0, 0, 0},
		"no bytes, more":          {0, 0, 5, 0},
	}
	for what, c := range cases {
		t.Run(what, func(t *testing.T) {
			d := half(t, "a", c.synced, c.loose)
			d.Crash([]int{c.keep})
			want(t, d, "a", rising(c.left), 0)
			if c.left == 0 {
				wantNames(t, d)
			} else {
				wantNames(t, d, "a")
			}
		})
	}
}

func TestCrashSaysNothingForTheLastFiles(t *testing.T) {
	for says := range 6 { // from nothing at all to more than there are files
		d := New()
		names := []string{"a", "b", "c"}
		for _, i := range []int{2, 0, 1} {
			add(t, d, names[i], 1, 3)
		}
		d.Crash([]int{1, 2, 3, 9, 9}[:min(says, 5)])
		for i, name := range names {
			left := 1
			if i < says {
				left += i + 1
			}
			want(t, d, name, rising(left), 0)
		}
		wantNames(t, d, names...)
	}
}

func TestCrashReadsNothingBehindTheList(t *testing.T) {
	d := half(t, "a", 1, 3)
	add(t, d, "b", 1, 3)
	d.Crash([]int{1, 3, 3}[:1])
	want(t, d, "a", rising(2), 0)
	want(t, d, "b", rising(1), 0)
}

func TestCrashGoesInTheOrderOfNames(t *testing.T) {
	for _, order := range orders([]string{"a", "a0", "b", "c"}) {
		d := New()
		for _, name := range order {
			add(t, d, name, 1, 4)
		}
		d.Crash([]int{0, 1, 2, 3})
		for i, name := range []string{"a", "a0", "b", "c"} {
			want(t, d, name, rising(1+i), 0)
		}
	}
}

// A file that a crash leaves nothing of, or that had no bytes, has its place in the order, too.
func TestCrashCountsFilesThatItEnds(t *testing.T) {
	d := New()
	add(t, d, "a", 0, 2)
	add(t, d, "b", 0, 0)
	add(t, d, "c", 0, 3)
	add(t, d, "d", 2, 2)
	d.Crash([]int{0, 7, 2, 1})
	wantNames(t, d, "c", "d")
	want(t, d, "a", nil, 0)
	want(t, d, "b", nil, 0)
	want(t, d, "c", rising(2), 0)
	want(t, d, "d", rising(3), 0)
}

func TestAFileOfWhichNothingIsLeft(t *testing.T) {
	d := half(t, "a", 0, 3)
	add(t, d, "b", 0, 0)
	must(t, "sync of no bytes", d.Sync("b"))
	d.Crash(nil)
	wantNames(t, d)
	for _, name := range []string{"a", "b"} {
		want(t, d, name, nil, 0)
		if e := d.Sync(name); e != api.ErrNone {
			t.Errorf("%q: error %d, want ErrNone", name, e)
		}
	}
	must(t, "append", d.Append("a", []byte{9}))
	want(t, d, "a", []byte{9}, 1)
	wantNames(t, d, "a")
}

func TestAppendBehindACrash(t *testing.T) {
	d := half(t, "a", 2, 4)
	d.Crash([]int{1})
	must(t, "append", d.Append("a", []byte{9}))
	want(t, d, "a", []byte{1, 2, 3, 9}, 1)
	d.Crash(nil)
	want(t, d, "a", []byte{1, 2, 3}, 0)
}

// 4.6

func TestWhatIsSyncedStays(t *testing.T) {
	for keep := -2; keep < 6; keep++ {
		d := half(t, "a", 3, 4)
		must(t, "replace", d.Replace("b", []byte{5, 6}))
		for range 5 {
			ahead := d.Read("a")[:3]
			d.Crash([]int{keep, keep})
			if got := d.Read("a"); !bytes.HasPrefix(got, ahead) {
				t.Errorf("keep %d: %v does not begin with %v", keep, got, ahead)
			}
			want(t, d, "b", []byte{5, 6}, 0)
			must(t, "append", d.Append("a", []byte{8, 8}))
		}
	}
}

func TestACrashBehindACrashLosesNothingMore(t *testing.T) {
	for keep := -1; keep < 5; keep++ {
		d := half(t, "a", 1, 3)
		add(t, d, "b", 0, 2)
		add(t, d, "c", 0, 0)
		d.Crash([]int{keep, keep - 1})
		once := told(d)
		for again := -1; again < 5; again++ {
			d.Crash([]int{again, again})
			d.Crash(nil)
			if got := told(d); !got.same(once) {
				t.Errorf("keep %d, again %d: %v, want %v", keep, again, got, once)
			}
		}
	}
}

// R2 and R3

func TestWhatIsHandedInIsNeitherChangedNorKept(t *testing.T) {
	b := []byte{1, 2, 3, 4, 5, 6}
	d := New()
	must(t, "append", d.Append("a", b[:2]))
	must(t, "replace", d.Replace("b", b[:3]))
	must(t, "append", d.Append("a", b[2:4]))
	must(t, "append", d.Append("b", b[3:4]))
	if !bytes.Equal(b, rising(6)) {
		t.Errorf("changed: %v", b)
	}
	for i := range b {
		b[i] = 99
	}
	want(t, d, "a", rising(4), 4)
	want(t, d, "b", rising(4), 1)
	keep := []int{1, -7, 1 << 40, 3}
	d.Crash(keep[:3])
	if !slices.Equal(keep, []int{1, -7, 1 << 40, 3}) {
		t.Errorf("changed: %v", keep)
	}
	want(t, d, "a", rising(1), 0)
	want(t, d, "b", rising(3), 0)
}

func TestWhatIsToldIsNewMemory(t *testing.T) {
	d := half(t, "a", 3, 2)
	add(t, d, "b", 2, 0)
	d.Crash([]int{1})
	must(t, "append", d.Append("a", []byte{5}))
	for _, name := range []string{"a", "b"} {
		first, second := d.Read(name), d.Read(name)
		was := slices.Clone(second)
		spoil(first)
		if !bytes.Equal(second, was) {
			t.Errorf("%q: two answers share memory: %v", name, second)
		}
		if got := d.Read(name); !bytes.Equal(got, was) {
			t.Errorf("%q: the file was changed: %v", name, got)
		}
	}
	names := d.Names()
	names[0], names[1] = "x", "y"
	wantNames(t, d, "a", "b")
	want(t, d, "a", rising(5), 1)
	want(t, d, "b", rising(2), 0)
}

// spoil changes all of a list's memory, and what lies behind its length.
func spoil(b []byte) {
	b = b[:cap(b)]
	for i := range b {
		b[i] ^= 0xff
	}
}

// What was told stays as it is, whatever comes to the file behind it.
func TestWhatWasToldStays(t *testing.T) {
	d := half(t, "a", 2, 2)
	b, names := d.Read("a"), d.Names()
	d.Crash([]int{1})
	must(t, "append", d.Append("a", []byte{77, 78}))
	must(t, "replace", d.Replace("a", []byte{79, 80, 81, 82}))
	must(t, "append", d.Append("b", nil))
	must(t, "replace by none", d.Replace("a", nil))
	if !bytes.Equal(b, rising(4)) || !slices.Equal(names, []string{"a"}) {
		t.Errorf("%v, %q", b, names)
	}
}

func TestAFileMayBeFedWithItself(t *testing.T) {
	d := half(t, "a", 1, 1)
	must(t, "append", d.Append("a", d.Read("a")))
	want(t, d, "a", []byte{1, 2, 1, 2}, 3)
	must(t, "replace", d.Replace("a", d.Read("a")[1:3]))
	want(t, d, "a", []byte{2, 1}, 0)
}

// state is what may be told of a disk.
type state struct {
	names []string
	files [][]byte
	loose []int
}

func told(d *Disk) state {
	s := state{names: d.Names()}
	for _, name := range s.names {
		s.files = append(s.files, d.Read(name))
		s.loose = append(s.loose, d.Loose(name))
	}
	return s
}

func (s state) same(o state) bool {
	return slices.Equal(s.names, o.names) && slices.EqualFunc(s.files, o.files, bytes.Equal) && slices.Equal(s.loose, o.loose)
}

// cell is a byte that knows whether it is synced.
type cell struct {
	c      byte
	synced bool
}

// plain is a disk worded as the promises are: files in a list, each a list of cells.
type plain struct {
	names []string
	cells [][]cell
}

func (p *plain) find(name string) int { return slices.Index(p.names, name) }

// place is where a file stands, which is made if there is none.
func (p *plain) place(name string) int {
	if i := p.find(name); i >= 0 {
		return i
	}
	p.names = append(p.names, name)
	p.cells = append(p.cells, nil)
	return len(p.names) - 1
}

func (p *plain) append(name string, b []byte, synced bool) {
	i := p.place(name)
	for _, c := range b {
		p.cells[i] = append(p.cells[i], cell{c, synced})
	}
}

func (p *plain) sync(name string) bool {
	i := p.find(name)
	if i < 0 {
		return false
	}
	for k := range p.cells[i] {
		p.cells[i][k].synced = true
	}
	return true
}

func (p *plain) remove(name string) {
	if i := p.find(name); i >= 0 {
		p.names = slices.Delete(p.names, i, i+1)
		p.cells = slices.Delete(p.cells, i, i+1)
	}
}

func (p *plain) crash(keep []int) {
	for place, name := range slices.Sorted(slices.Values(p.names)) {
		var left []byte
		kept := 0
		for _, c := range p.cells[p.find(name)] {
			if !c.synced {
				if place >= len(keep) || kept >= keep[place] {
					break
				}
				kept++
			}
			left = append(left, c.c)
		}
		p.remove(name)
		if len(left) > 0 {
			p.append(name, left, true)
		}
	}
}

func (p *plain) told() state {
	s := state{names: slices.Sorted(slices.Values(p.names))}
	for _, name := range s.names {
		var b []byte
		loose := 0
		for _, c := range p.cells[p.find(name)] {
			b = append(b, c.c)
			if !c.synced {
				loose++
			}
		}
		s.files = append(s.files, b)
		s.loose = append(s.loose, loose)
	}
	return s
}

// chance is numbers that look like chance, the same ones each time.
type chance uint64

func (c *chance) below(n int) int {
	*c = *c*6364136223846793005 + 1442695040888963407
	return int(uint64(*c) >> 33 % uint64(n))
}

// act does one thing to a disk and to a plain one.
func (c *chance) act(t *testing.T, d *Disk, p *plain) {
	t.Helper()
	name := []string{"a", "a0", "aa", "b", "zz9"}[c.below(5)]
	b := make([]byte, c.below(5))
	for i := range b {
		b[i] = byte(c.below(256))
	}
	switch c.below(8) {
	case 0, 1, 2:
		must(t, "append", d.Append(name, b))
		p.append(name, b, false)
	case 3, 4:
		if there := d.Sync(name) == api.OK; there != p.sync(name) {
			t.Fatalf("sync of %q: there: %t", name, there)
		}
	case 5:
		must(t, "replace", d.Replace(name, b))
		p.remove(name)
		if len(b) > 0 {
			p.append(name, b, true)
		}
	case 6:
		keep := make([]int, c.below(7))
		for i := range keep {
			keep[i] = c.below(9) - 2
		}
		d.Crash(keep)
		p.crash(keep)
	case 7:
		if e := d.Append(strings.ToUpper(name), b); e != api.ErrArg {
			t.Fatalf("append to no name: %d", e)
		}
	}
}

func TestManyActs(t *testing.T) {
	for seed := range 60 {
		c := chance(seed)
		d, p := New(), &plain{}
		for i := range 400 {
			c.act(t, d, p)
			if got, want := told(d), p.told(); !got.same(want) {
				t.Fatalf("seed %d, act %d: %v, want %v", seed, i, got, want)
			}
		}
	}
}

// P6: the same calls, the same answers.
func TestTheSameCallsTellTheSame(t *testing.T) {
	for seed := range 10 {
		one, other := chance(seed), chance(seed)
		d, e := New(), New()
		p, q := &plain{}, &plain{}
		for range 200 {
			one.act(t, d, p)
			other.act(t, e, q)
			if !told(d).same(told(e)) {
				t.Fatalf("seed %d: %v, %v", seed, told(d), told(e))
			}
		}
	}
}
