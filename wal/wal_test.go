package wal

import (
	"math"
	"slices"
	"strings"
	"testing"

	"funicular/api"
	"funicular/disk"
	"funicular/logs"
	"funicular/pack"
)

func TestExample(t *testing.T) {
	d := disk.New()
	w := mustOpen(t, d, 3)
	h := hard(2, 1, api.Log{Entries: []api.Entry{entry(2, "paid")}}, "")
	mustSave(t, w, h)
	w.Flush()
	d.Crash(nil)
	wantHard(t, mustOpen(t, d, 3), h)
	if got := d.Names(); !slices.Equal(got, []string{"g03s00000001"}) {
		t.Errorf("names %q", got)
	}
}

// 16.1

func TestSegment(t *testing.T) {
	groups := []struct {
		group int
		text  string
	}{{0, "00"}, {1, "01"}, {3, "03"}, {9, "09"}, {10, "10"}, {63, "63"}, {99, "99"}, {100, "00"}, {101, "01"}, {110, "10"}, {199, "99"}, {1234, "34"}, {math.MaxInt, "07"}}
	seqs := []struct {
		seq  int
		text string
	}{
		{0, "00000000"}, {1, "00000001"}, {9, "00000009"}, {10, "00000010"}, {99, "00000099"}, {100, "00000100"}, {1234567, "01234567"}, {12345678, "12345678"},
		{99999999, "99999999"}, {100000000, "00000000"}, {100000001, "00000001"}, {123456789, "23456789"}, {math.MaxInt, "54775807"},
	}
	for _, g := range groups {
		for _, s := range seqs {
			if got, want := Segment(g.group, s.seq), "g"+g.text+"s"+s.text; got != want {
				t.Errorf("Segment(%d, %d) = %q, want %q", g.group, s.seq, got, want)
			}
		}
		if got, want := Snapshot(g.group), "g"+g.text+"p"; got != want {
			t.Errorf("Snapshot(%d) = %q, want %q", g.group, got, want)
		}
	}
}

func TestNamesOfGroupsAreApart(t *testing.T) {
	seen := map[string]int{}
	count := 0
	for group := range api.MaxParts {
		for _, name := range []string{Snapshot(group), Segment(group, 0), Segment(group, 1), Segment(group, 2), Segment(group, 10), Segment(group, 99999999)} {
			if !pack.Name(name) {
				t.Errorf("%q is no name", name)
			}
			seen[name]++
			count++
		}
	}
	if len(seen) != count {
		t.Errorf("%d names of %d", len(seen), count)
	}
}

func TestNamesRiseWithNumbers(t *testing.T) {
	seqs := []int{0, 1, 2, 9, 10, 11, 99, 100, 9999999, 10000000, 99999999}
	for i := range len(seqs) - 1 {
		if a, b := Segment(7, seqs[i]), Segment(7, seqs[i+1]); a >= b {
			t.Errorf("%q is not ahead of %q", a, b)
		}
	}
}

func TestNamesOfNumbersBelow0End(t *testing.T) {
	for _, n := range []int{-1, -10, math.MinInt} {
		Segment(n, n)
		Snapshot(n)
	}
}

// 16.2

func TestCheck(t *testing.T) {
	bad, ok := api.ErrArg, api.OK
	for _, c := range []struct {
		name string
		h    api.Hard
		want api.Errno
	}{
		{"nothing", api.Hard{}, ok},
		{"a term alone", hard(3, 0, api.Log{}, ""), ok},
		{"a term below 0", hard(-1, 0, api.Log{}, ""), bad},
		{"the least term", hard(math.MinInt, 0, api.Log{}, ""), bad},
		{"the greatest term", hard(most, 1, api.Log{}, ""), ok},
		{"a term above that", hard(most+1, 1, api.Log{}, ""), bad},
		{"the greatest number as a term", hard(math.MaxInt, 1, api.Log{}, ""), bad},
		{"a vote below 0", hard(3, -1, api.Log{}, ""), bad},
		{"a vote for 1", hard(3, 1, api.Log{}, ""), ok},
		{"a vote without a term", hard(0, 1, api.Log{}, ""), ok},
		{"the greatest vote", hard(3, nodes, api.Log{}, ""), ok},
		{"a vote above that", hard(3, nodes+1, api.Log{}, ""), bad},
		{"an empty snapshot at 0", api.Hard{Term: 1, Snap: []byte{}}, ok},
		{"a snapshot at 0", hard(1, 0, api.Log{}, "s"), bad},
		{"a snapshot at 0, and entries", hard(1, 0, log(0, 0, 1), "s"), bad},
		{"a snapshot at 1", hard(1, 0, log(1, 1), "s"), ok},
		{"a snapshot without bytes", hard(1, 0, log(1, 1), ""), ok},
		{"a base below 0", hard(1, 0, log(-1, 1), ""), bad},
		{"a base without a term", hard(1, 0, log(1, 0), ""), bad},
		{"a base's term without a base", hard(1, 0, log(0, 1), ""), bad},
		{"the greatest base", hard(1, 0, log(most, 1), ""), ok},
		{"a base above that", hard(1, 0, log(most+1, 1), ""), bad},
		{"the greatest base's term", hard(most, 0, log(1, most), ""), ok},
		{"a base's term above that", hard(most, 0, log(1, most+1), ""), bad},
		{"an entry of term 0", hard(1, 0, log(0, 0, 0), ""), bad},
		{"an entry of a term below 0", hard(1, 0, log(0, 0, -1), ""), bad},
		{"an entry of the greatest term", hard(most, 0, log(0, 0, most), ""), ok},
		{"an entry of a term above that", hard(most, 0, log(0, 0, most+1), ""), bad},
		{"terms that fall", hard(3, 0, log(0, 0, 1, 2, 1), ""), bad},
		{"a term below the base's", hard(3, 0, log(1, 2, 1), ""), bad},
		{"a last entry below the term", hard(3, 0, log(0, 0, 1, 2), ""), ok},
		{"a last entry at the term", hard(3, 0, log(0, 0, 1, 3), ""), ok},
		{"a last entry above the term", hard(3, 0, log(0, 0, 1, 4), ""), bad},
		{"a base at the term, without entries", hard(3, 0, log(1, 3), ""), ok},
		{"a base above the term, without entries", hard(3, 0, log(1, 4), ""), bad},
		{"an entry, and term 0", hard(0, 0, log(0, 0, 1), ""), bad},
	} {
		was := plain(c.h)
		if got := Check(c.h); got != c.want {
			t.Errorf("%s: %d, want %d", c.name, got, c.want)
		}
		if !equal(c.h, was) {
			t.Errorf("%s: it was changed", c.name)
		}
		d := disk.New()
		w := mustOpen(t, d, 0)
		if c.want != ok {
			wantNoSave(t, w, d, c.h, c.want)
		} else {
			mustSave(t, w, c.h)
		}
	}
}

// 16.3

func TestBytesOfRecords(t *testing.T) {
	d := disk.New()
	w := mustOpen(t, d, 0)
	mustSave(t, w, hard(300, 7, log(0, 0, 2), ""))
	// lengths, then sums, then what each is, and its numbers: 300 is 172, 2
	one := []byte{4, 0, 0, 0, 0xd3, 0xe5, 0xe4, 0x25, 1, 172, 2, 7}
	two := []byte{5, 0, 0, 0, 0x1c, 0x15, 0xa5, 0x49, 2, 1, 2, 1, 'e'}
	if got, want := d.Read("g00s00000001"), joined(one, two); !slices.Equal(got, want) {
		t.Errorf("bytes %x, want %x", got, want)
	}
}

func TestRecordsOfEachKind(t *testing.T) {
	long := strings.Repeat("l", 200)
	for _, c := range []struct {
		name    string
		was, is api.Hard
		want    []byte
	}{
		{"a term", api.Hard{}, hard(1, 0, api.Log{}, ""), termOf(1, 0)},
		{"the greatest term", api.Hard{}, hard(most, 7, api.Log{}, ""), termOf(most, 7)},
		{"a vote", hard(1, 0, api.Log{}, ""), hard(1, 3, api.Log{}, ""), termOf(1, 3)},
		{"an entry", hard(9, 0, api.Log{}, ""), hard(9, 0, log(0, 0, 9), ""), entryOf(1, 9, "e")},
		{"one without bytes, of a great term", hard(200, 0, api.Log{}, ""), hard(200, 0, api.Log{Entries: []api.Entry{{Term: 128}}}, ""), entryOf(1, 128, "")},
		{"one of many bytes", hard(9, 0, api.Log{}, ""), hard(9, 0, api.Log{Entries: []api.Entry{entry(1, long)}}, ""), entryOf(1, 1, long)},
		{"a cut", hard(9, 0, log(0, 0, 1, 1), ""), hard(9, 0, log(0, 0, 1), ""), cutOf(2)},
	} {
		d := disk.New()
		w := mustOpen(t, d, 0)
		mustSave(t, w, c.was)
		had := d.Read("g00s00000001")
		mustSave(t, w, c.is)
		if got, want := d.Read("g00s00000001"), joined(had, c.want); !slices.Equal(got, want) {
			t.Errorf("%s: %x, want %x", c.name, got, want)
		}
	}
}

func TestRecordsAtGreatPlaces(t *testing.T) {
	for _, base := range []int{126, 127, 128, 16383, 16384, most - 2} {
		d := disk.New()
		w := mustOpen(t, d, 63)
		l := api.Log{Base: base, BaseTerm: base, Entries: []api.Entry{entry(base, "a"), entry(base+1, "")}}
		h := hard(base+1, 1, l, "snap")
		mustSave(t, w, h)
		at := uint64(base)
		want := map[string]file{
			"g63p":         synced(snapOf(at, at, "snap")),
			"g63s00000002": synced(termOf(at+1, 1), baseOf(at, at), entryOf(at+1, at, "a"), entryOf(at+2, at+1, "")),
		}
		wantFiles(t, d, want)
		wantHard(t, mustOpen(t, d, 63), h)
		wantFiles(t, d, want)
	}
}

// 16.4

func TestAnotherSegmentBeginsWithAllThatIsHard(t *testing.T) {
	_, d, h := behind(t)
	wantFiles(t, d, behindFiles())
	d.Crash(nil)
	wantHard(t, mustOpen(t, d, 3), h)
}

func TestAnotherSegmentTakesTheNextNumber(t *testing.T) {
	w, d, h := behind(t)
	for i := range 10 { // from one digit to two
		h.Log, h.Snap = log(5+i, 5), []byte{byte(i)}
		mustSave(t, w, h)
		base := uint64(5 + i)
		wantFiles(t, d, map[string]file{"g03p": synced(snapOf(base, 5, string(h.Snap))), Segment(3, 3+i): synced(termOf(5, 2), baseOf(base, 5))})
	}
}

// others is files whose names are not those of group 3's segments, nor of its snapshot.
func others() map[string]file {
	all := map[string]file{}
	for _, name := range []string{
		"g03s000000010", "g03s0000001", "g03s", "g03s0000000a", "g03sa0000000", "g03p00000001", "g03p0", "g3s00000001", "g3p", "g13s00000001", "g30s00000001", "g02p", "g04p",
		"xg03s00000001", "g03sg03s00000001", "g003s00000001", "g03t00000001", "s00000001", "p", "g03", "g03s99999999999999999999", "g03s00000001a",
	} {
		all[name] = file{bytes: "of " + name, loose: 2}
	}
	return all
}

func TestFilesOfOtherNamesStay(t *testing.T) {
	all := others()
	d := diskOf(all)
	w := mustOpen(t, d, 3)
	wantHard(t, w, api.Hard{})
	wantFiles(t, d, all)
	mustSave(t, w, hard(2, 1, log(0, 0, 1, 2, 2), ""))
	w.Flush()
	mustSave(t, w, hard(5, 2, log(4, 2, 2, 5), "snap"))
	for name, f := range behindFiles() {
		all[name] = f
	}
	wantFiles(t, d, all)
	d.Append("g03s00000002", []byte("torn"))
	d.Append("g03s00000003", []byte("torn"))
	mustOpen(t, d, 3)
	wantFiles(t, d, all)
}

// A name of more or fewer digits is not that of a segment of the same number.
func TestNamesOfOtherDigitsAreNoSegments(t *testing.T) {
	all := map[string]file{"g03s00000001": synced(beganBytes()), "g04s00000002": synced(termOf(9, 1))}
	for _, digits := range []string{"1", "0000001", "000000001", "00000000000000000001", "100000001"} {
		all["g03s"+digits] = synced(beganBytes(), termOf(9, 1))
	}
	wantOpen(t, all, 3, hard(2, 1, log(0, 0, 1, 2, 2), ""), all)
}

func TestAnotherSegmentWithManyEntries(t *testing.T) {
	w, d, h := began(t)
	var want []byte
	h.Log = api.Log{Base: 2, BaseTerm: 2}
	for i := range 100 {
		h.Log.Entries = append(h.Log.Entries, entry(2, strings.Repeat("x", i)))
		want = joined(want, entryOf(uint64(3+i), 2, strings.Repeat("x", i)))
	}
	mustSave(t, w, h)
	wantFiles(t, d, map[string]file{"g03p": synced(snapOf(2, 2, "")), "g03s00000002": synced(termOf(2, 1), baseOf(2, 2), want)})
	h.Log = logs.Behind(h.Log, entry(2, "y")) // the segment has its fill, however it came to it
	mustSave(t, w, h)
	if got, want := files(d)["g03s00000003"], loose(entryOf(103, 2, "y")); got != want {
		t.Errorf("%v, want %v", got, want)
	}
}

func TestAnotherSegmentEndsAllElderOnes(t *testing.T) {
	for _, flushed := range []bool{false, true} {
		d := disk.New()
		w := mustOpen(t, d, 3)
		h := hard(1, 1, api.Log{}, "")
		for range 20 {
			h.Log = logs.Behind(h.Log, entry(1, strings.Repeat("x", 100)))
			mustSave(t, w, h)
			if flushed {
				w.Flush()
			}
		}
		if n := len(d.Names()); n < 6 {
			t.Fatalf("%d segments", n)
		}
		last := len(d.Names())
		h.Log, _ = logs.Compact(h.Log, 20)
		h.Snap = []byte("twenty")
		mustSave(t, w, h)
		wantFiles(t, d, map[string]file{"g03p": synced(snapOf(20, 1, "twenty")), Segment(3, last+1): synced(termOf(1, 1), baseOf(20, 1))})
	}
}

func TestBehindTheGreatestNumberOfEightDigits(t *testing.T) {
	all := map[string]file{"g03s99999999": synced(beganBytes()), "g03s00000000": {}}
	d := diskOf(all)
	w := mustOpen(t, d, 3)
	h := hard(2, 1, log(3, 2), "snap")
	mustSave(t, w, h)
	wantFiles(t, d, map[string]file{"g03p": synced(snapOf(3, 2, "snap")), "g03s00000000": synced(termOf(2, 1), baseOf(3, 2))})
	w = mustOpen(t, d, 3)
	wantHard(t, w, h)
	h.Log.Base = 4
	mustSave(t, w, h)
	wantFiles(t, d, map[string]file{"g03p": synced(snapOf(4, 2, "snap")), "g03s00000001": synced(termOf(2, 1), baseOf(4, 2))})
}

// 16.6

func TestFlush(t *testing.T) {
	d := disk.New()
	w := mustOpen(t, d, 3)
	w.Flush() // nothing was written
	wantFiles(t, d, map[string]file{})
	h := hard(2, 1, log(0, 0, 1, 2, 2), "")
	mustSave(t, w, h)
	wantFiles(t, d, map[string]file{"g03s00000001": loose(beganBytes())})
	w.Flush()
	wantFiles(t, d, map[string]file{"g03s00000001": synced(beganBytes())})
	wantHard(t, w, h)
	w.Flush()
	wantFiles(t, d, map[string]file{"g03s00000001": synced(beganBytes())})
	h.Vote = 2
	mustSave(t, w, h)
	wantFiles(t, d, map[string]file{"g03s00000001": {bytes: string(joined(beganBytes(), termOf(2, 2))), loose: len(termOf(2, 2))}})
	d.Crash(nil)
	h.Vote = 1
	wantHard(t, mustOpen(t, d, 3), h)
}

func TestFlushOfTheLastSegmentAlone(t *testing.T) {
	all := map[string]file{"g03s00000001": loose(termOf(1, 1)), "g03s00000002": loose(termOf(2, 1)), "g04s00000001": loose(termOf(3, 1)), "g03p1": loose([]byte("x"))}
	d := diskOf(all)
	w := mustOpen(t, d, 3)
	wantFiles(t, d, all)
	w.Flush()
	all["g03s00000002"] = synced(termOf(2, 1))
	wantFiles(t, d, all)
}

func TestWhatIsNotSyncedIsLost(t *testing.T) {
	d := disk.New()
	w := mustOpen(t, d, 3)
	mustSave(t, w, hard(2, 1, log(0, 0, 1, 2, 2), ""))
	d.Crash(nil)
	wantHard(t, mustOpen(t, d, 3), api.Hard{})
	wantFiles(t, d, map[string]file{})
}

func TestHard(t *testing.T) {
	w, d, h := began(t)
	wantHard(t, w, h)
	wantNoSave(t, w, d, hard(1, 1, log(0, 0, 1), ""), api.ErrState)
	wantHard(t, w, h)
	w, _, h = behind(t)
	wantHard(t, w, h)
}

// What was handed in, what is kept and what is handed out have memory of their own.

func spoil(h api.Hard) {
	for _, e := range h.Log.Entries {
		for i := range e.Data {
			e.Data[i] = '!'
		}
		clear(e.Data[len(e.Data):cap(e.Data)])
	}
	for i := range h.Log.Entries {
		h.Log.Entries[i].Term = 99
	}
	for i := range h.Snap {
		h.Snap[i] = '!'
	}
}

func TestMemoryThatIsHandedIn(t *testing.T) {
	for _, h := range []api.Hard{
		hard(2, 1, log(0, 0, 1, 2, 2), ""),
		hard(2, 1, log(4, 2, 2, 2), "snap"),
	} {
		d := disk.New()
		w := mustOpen(t, d, 3)
		mine := plain(h)
		mustSave(t, w, mine)
		spoil(mine)
		wantHard(t, w, h)
		next := plain(h) // appended to the segment: only the entries are kept anew
		next.Log.Entries = append(next.Log.Entries, entry(2, "next"))
		mine = plain(next)
		mustSave(t, w, mine)
		spoil(mine)
		wantHard(t, w, next)
		w.Flush()
		wantHard(t, mustOpen(t, d, 3), next)
	}
}

func TestMemoryBehindLengthsStays(t *testing.T) {
	data, snap := []byte("abcdef"), []byte("uvwxyz")
	entries := []api.Entry{{Term: 1, Data: data[:2]}, {Term: 1, Data: data[2:4]}, {Term: 7, Data: data[4:]}}
	d := disk.New()
	w := mustOpen(t, d, 3)
	mustSave(t, w, api.Hard{Term: 1, Log: api.Log{Base: 1, BaseTerm: 1, Entries: entries[:1]}, Snap: snap[:3]})
	mustSave(t, w, api.Hard{Term: 1, Log: api.Log{Base: 1, BaseTerm: 1, Entries: entries[:2]}, Snap: snap[:3]})
	if string(data) != "abcdef" || string(snap) != "uvwxyz" || entries[2].Term != 7 || string(entries[2].Data) != "ef" {
		t.Errorf("%q, %q, %v", data, snap, entries)
	}
}

func TestMemoryThatIsHandedOut(t *testing.T) {
	for _, opened := range []bool{false, true} {
		w, d, h := behind(t)
		if opened {
			w = mustOpen(t, d, 3)
		}
		one, two := w.Hard(), w.Hard()
		spoil(one)
		if !equal(two, h) {
			t.Errorf("two that were handed out share: %v", two)
		}
		spoil(two)
		wantHard(t, w, h)
		one = w.Hard()
		one.Log.Entries = append(one.Log.Entries[:1], entry(9, "nine"))
		_ = append(one.Log.Entries[0].Data, "behind"...)
		_ = append(one.Snap[:1], "behind"...)
		wantHard(t, w, h)
		wantFiles(t, d, behindFiles())
	}
}

func TestWhatOneWalKeepsIsNotAnothers(t *testing.T) {
	w, d, h := behind(t)
	v := mustOpen(t, d, 3)
	spoil(w.Hard())
	next := plain(h)
	next.Log.Entries = next.Log.Entries[:1]
	mustSave(t, w, next)
	wantHard(t, v, h)
}

// A Wal that Open did not make has no disk.

func TestAWalWithoutADiskEnds(t *testing.T) {
	for _, w := range []*Wal{nil, {}} {
		if err := w.Save(hard(1, 1, log(0, 0, 1), "")); err == api.OK {
			t.Error("it is kept nowhere")
		}
		w.Flush()
		if got := w.Hard(); !equal(got, api.Hard{}) {
			t.Errorf("hard %v", got)
		}
	}
}
