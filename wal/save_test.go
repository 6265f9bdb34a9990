package wal

import (
	"math"
	"slices"
	"strings"
	"testing"

	"funicular/api"
	"funicular/disk"
)

// 16.5

func TestSaveIsRefused(t *testing.T) {
	w, d, h := behind(t) // term 5, base 4 of term 2
	bad, late := api.ErrArg, api.ErrState
	for _, c := range []struct {
		name string
		h    api.Hard
		want api.Errno
	}{
		{"a term below", hard(4, 2, log(4, 2, 2), "snap"), late},
		{"term 0, and nothing", api.Hard{}, late},
		{"a base below", hard(5, 2, log(3, 2, 2, 2, 5), "snap"), late},
		{"base 0", hard(5, 2, log(0, 0, 2, 2, 2, 2, 2, 5), ""), late},
		{"a term below, a base above", hard(4, 2, log(5, 2), "snap"), late},
		{"a term above, a base below", hard(6, 2, log(3, 2, 2, 2, 5), "snap"), late},
		{"another base's term", hard(5, 2, log(4, 1, 2, 5), "snap"), late},
		{"a base's term above", hard(5, 2, log(4, 3), "snap"), late},
		{"another snapshot", hard(5, 2, log(4, 2, 2, 5), "snaq"), late},
		{"a shorter snapshot", hard(5, 2, log(4, 2, 2, 5), "sna"), late},
		{"a longer snapshot", hard(5, 2, log(4, 2, 2, 5), "snapp"), late},
		{"no snapshot any more", hard(5, 2, log(4, 2, 2, 5), ""), late},
		{"another snapshot, and a term above", hard(6, 2, log(4, 2, 2, 5), "other"), late},
		{"a term below, and a vote that may not be", hard(4, 8, log(4, 2, 2), "snap"), bad},
		{"a term below 0", hard(-1, 2, log(4, 2, 2, 5), "snap"), bad},
		{"the greatest number as a term", hard(math.MaxInt, 2, log(4, 2, 2, 5), "snap"), bad},
		{"a base below 0", hard(5, 2, log(-4, 2, 2, 5), "snap"), bad},
		{"a base below, and a log that may not be", hard(5, 2, log(3, 2, 2, 1), "snap"), bad},
		{"another snapshot, and an entry above the term", hard(5, 2, log(4, 2, 6), "other"), bad},
		{"base 0, and a snapshot", hard(5, 2, log(0, 0, 1), "snap"), bad},
	} {
		t.Run(c.name, func(t *testing.T) { wantNoSave(t, w, d, c.h, c.want) })
	}
	mustSave(t, w, h)
	wantFiles(t, d, behindFiles())
}

func TestSaveIsRefusedByWhatWasSavedLast(t *testing.T) {
	w, d, h := began(t)
	mustSave(t, w, hard(7, 1, h.Log, ""))
	wantNoSave(t, w, d, hard(6, 1, h.Log, ""), api.ErrState)
	w.Flush()
	v := mustOpen(t, d, 3) // and so it is, if it was opened
	wantNoSave(t, v, d, hard(6, 1, h.Log, ""), api.ErrState)
	mustSave(t, v, hard(7, 1, h.Log, ""))
	_, d, _ = behind(t)
	v = mustOpen(t, d, 3)
	wantNoSave(t, v, d, hard(5, 2, log(4, 2, 2, 5), "snaq"), api.ErrState)
	wantNoSave(t, v, d, hard(5, 2, log(4, 1, 2, 5), "snap"), api.ErrState)
	wantNoSave(t, v, d, hard(5, 2, log(3, 2, 2, 2, 5), "snap"), api.ErrState)
	mustSave(t, v, hard(5, 2, log(5, 1), "other")) // a term below the base's that was
}

// wantWritten saves something behind what was, and fails the test, if other bytes than those are written, or if it is not found again.
func wantWritten(t *testing.T, was, is api.Hard, want ...[]byte) {
	t.Helper()
	d := disk.New()
	w := mustOpen(t, d, 3)
	mustSave(t, w, was)
	w.Flush()
	name := w.segment()
	had := files(d)
	mustSave(t, w, is)
	b := joined(want...)
	f := had[name]
	had[name] = file{bytes: f.bytes + string(b), loose: len(b)}
	if len(had[name].bytes) == 0 {
		delete(had, name)
	}
	wantFiles(t, d, had)
	wantHard(t, mustOpen(t, d, 3), is)
	wantFiles(t, d, had)
	w.Flush()
	d.Crash(nil)
	wantHard(t, mustOpen(t, d, 3), is)
}

func TestSaveWritesWhatIsAnother(t *testing.T) {
	some := log(0, 0, 1, 2, 2)
	ending := func(entries ...api.Entry) api.Log {
		return api.Log{Entries: append(slices.Clone(some.Entries[:1]), entries...)}
	}
	was := hard(2, 1, some, "")
	for _, c := range []struct {
		name string
		is   api.Hard
		want [][]byte
	}{
		{"nothing", was, nil},
		{"a term", hard(3, 1, some, ""), [][]byte{termOf(3, 1)}},
		{"a vote", hard(2, 2, some, ""), [][]byte{termOf(2, 2)}},
		{"no vote any more", hard(2, 0, some, ""), [][]byte{termOf(2, 0)}},
		{"a term and a vote", hard(3, 2, some, ""), [][]byte{termOf(3, 2)}},
		{"an entry more", hard(2, 1, log(0, 0, 1, 2, 2, 2), ""), [][]byte{entryOf(4, 2, "eeee")}},
		{"two more", hard(2, 1, log(0, 0, 1, 2, 2, 2, 2), ""), [][]byte{entryOf(4, 2, "eeee"), entryOf(5, 2, "eeeee")}},
		{"one of the next term", hard(3, 0, log(0, 0, 1, 2, 2, 3), ""), [][]byte{termOf(3, 0), entryOf(4, 3, "eeee")}},
		{"one less", hard(2, 1, log(0, 0, 1, 2), ""), [][]byte{cutOf(3)}},
		{"two less", hard(2, 1, log(0, 0, 1), ""), [][]byte{cutOf(2)}},
		{"none any more", hard(2, 1, api.Log{}, ""), [][]byte{cutOf(1)}},
		{"the last of another term", hard(3, 1, log(0, 0, 1, 2, 3), ""), [][]byte{termOf(3, 1), cutOf(3), entryOf(3, 3, "eee")}},
		{"the last with other bytes", hard(2, 1, ending(some.Entries[1], entry(2, "eef")), ""), [][]byte{cutOf(3), entryOf(3, 2, "eef")}},
		{"the last with fewer bytes", hard(2, 1, ending(some.Entries[1], entry(2, "ee")), ""), [][]byte{cutOf(3), entryOf(3, 2, "ee")}},
		{"the last without bytes", hard(2, 1, ending(some.Entries[1], entry(2, "")), ""), [][]byte{cutOf(3), entryOf(3, 2, "")}},
		{"the middle one with other bytes", hard(2, 1, ending(entry(2, "x"), some.Entries[2]), ""), [][]byte{cutOf(2), entryOf(2, 2, "x"), entryOf(3, 2, "eee")}},
		{"the middle one of another term", hard(2, 1, log(0, 0, 1, 1, 2), ""), [][]byte{cutOf(2), entryOf(2, 1, "ee"), entryOf(3, 2, "eee")}},
		{"others, and fewer", hard(2, 1, ending(entry(2, "x")), ""), [][]byte{cutOf(2), entryOf(2, 2, "x")}},
		{"others, and more", hard(2, 1, ending(entry(2, "x"), some.Entries[2], entry(2, "y")), ""), [][]byte{cutOf(2), entryOf(2, 2, "x"), entryOf(3, 2, "eee"), entryOf(4, 2, "y")}},
		{"all others", hard(9, 7, log(0, 0, 3), ""), [][]byte{termOf(9, 7), cutOf(1), entryOf(1, 3, "e")}},
	} {
		t.Run(c.name, func(t *testing.T) { wantWritten(t, was, c.is, c.want...) })
	}
}

func TestSaveWritesBehindABase(t *testing.T) {
	was := hard(5, 2, log(4, 2, 2, 5), "snap")
	for _, c := range []struct {
		name string
		is   api.Hard
		want [][]byte
	}{
		{"nothing", was, nil},
		{"a term", hard(6, 0, log(4, 2, 2, 5), "snap"), [][]byte{termOf(6, 0)}},
		{"an entry more", hard(5, 2, log(4, 2, 2, 5, 5), "snap"), [][]byte{entryOf(7, 5, "eeeeeee")}},
		{"one less", hard(5, 2, log(4, 2, 2), "snap"), [][]byte{cutOf(6)}},
		{"none any more", hard(5, 2, log(4, 2), "snap"), [][]byte{cutOf(5)}},
		{"others", hard(5, 2, log(4, 2, 3, 5), "snap"), [][]byte{cutOf(5), entryOf(5, 3, "eeeee"), entryOf(6, 5, "eeeeee")}},
		{"the last another one", hard(6, 2, log(4, 2, 2, 6), "snap"), [][]byte{termOf(6, 2), cutOf(6), entryOf(6, 6, "eeeeee")}},
	} {
		t.Run(c.name, func(t *testing.T) { wantWritten(t, was, c.is, c.want...) })
	}
}

func TestSaveOfNothingOnAnEmptyDisk(t *testing.T) {
	d := disk.New()
	w := mustOpen(t, d, 3)
	mustSave(t, w, api.Hard{})
	mustSave(t, w, api.Hard{Log: api.Log{Entries: []api.Entry{}}, Snap: []byte{}})
	w.Flush()
	wantFiles(t, d, map[string]file{})
}

func TestABaseAboveBeginsAnotherSegment(t *testing.T) {
	for _, c := range []struct {
		name string
		is   api.Hard
		want [][]byte
	}{
		{"all compacted", hard(2, 1, log(3, 2), "s"), [][]byte{termOf(2, 1), baseOf(3, 2)}},
		{"one entry left", hard(2, 1, log(2, 2, 2), "s"), [][]byte{termOf(2, 1), baseOf(2, 2), entryOf(3, 2, "eee")}},
		{"a snapshot behind the log", hard(9, 0, log(100, 8), "s"), [][]byte{termOf(9, 0), baseOf(100, 8)}},
		{"a snapshot without bytes", hard(2, 1, log(1, 1, 2, 2), ""), [][]byte{termOf(2, 1), baseOf(1, 1), entryOf(2, 2, "ee"), entryOf(3, 2, "eee")}},
		{"another log", hard(2, 0, log(1, 2, 2), "s"), [][]byte{termOf(2, 0), baseOf(1, 2), entryOf(2, 2, "ee")}},
	} {
		t.Run(c.name, func(t *testing.T) {
			w, d, _ := began(t)
			mustSave(t, w, c.is)
			base := snapOf(uint64(c.is.Log.Base), uint64(c.is.Log.BaseTerm), string(c.is.Snap))
			want := map[string]file{"g03p": synced(base), "g03s00000002": synced(c.want...)}
			wantFiles(t, d, want)
			d.Crash(nil)
			wantFiles(t, d, want)
			wantHard(t, mustOpen(t, d, 3), c.is)
			mustSave(t, w, c.is) // nothing is another one
			wantFiles(t, d, want)
		})
	}
}

// sized is what is hard, if its records are as many bytes as that: 24 beside the entry's own, of which there are 128 and more.
func sized(t *testing.T, size int) (api.Hard, []byte) {
	t.Helper()
	text := strings.Repeat("x", size-24)
	b := joined(termOf(1, 0), entryOf(1, 1, text))
	if len(b) != size {
		t.Fatalf("%d bytes, want %d", len(b), size)
	}
	return hard(1, 0, api.Log{Entries: []api.Entry{entry(1, text)}}, ""), b
}

func TestASegmentThatHasItsFill(t *testing.T) {
	for _, flushed := range []bool{false, true} {
		for _, size := range []int{full - 1, full, full + 1, full + 2, 2 * full} {
			d := disk.New()
			w := mustOpen(t, d, 3)
			h, b := sized(t, size)
			mustSave(t, w, h)
			if flushed {
				w.Flush()
			}
			mustSave(t, w, h) // nothing is written, and nothing synced
			unsynced := size
			if flushed {
				unsynced = 0
			}
			want := map[string]file{"g03s00000001": {bytes: string(b), loose: unsynced}}
			wantFiles(t, d, want)
			h.Vote = 3
			mustSave(t, w, h)
			if size > full {
				want["g03s00000001"], want["g03s00000002"] = synced(b), loose(termOf(1, 3))
			} else {
				want["g03s00000001"] = file{bytes: string(joined(b, termOf(1, 3))), loose: unsynced + len(termOf(1, 3))}
			}
			wantFiles(t, d, want)
			wantHard(t, mustOpen(t, d, 3), h)
			wantFiles(t, d, want)
		}
	}
}

func TestSegmentsFollowOneAnother(t *testing.T) {
	d := disk.New()
	w := mustOpen(t, d, 3)
	h := hard(1, 0, api.Log{}, "")
	want := map[string]file{}
	last, size := 1, 0
	for i := range 300 {
		text := strings.Repeat("x", i%50)
		h.Log.Entries = append(h.Log.Entries, entry(1, text))
		b := entryOf(uint64(i+1), 1, text)
		if i == 0 {
			b = joined(termOf(1, 0), b)
		}
		if size > full {
			want[Segment(3, last)] = file{bytes: want[Segment(3, last)].bytes}
			last, size = last+1, 0
		}
		f := want[Segment(3, last)]
		want[Segment(3, last)] = file{bytes: f.bytes + string(b), loose: f.loose + len(b)}
		size += len(b)
		mustSave(t, w, h)
		if i%7 == 0 {
			w.Flush()
			want[Segment(3, last)] = file{bytes: want[Segment(3, last)].bytes}
		}
		if i%31 == 0 {
			w = mustOpen(t, d, 3) // goes on in the last segment
			wantHard(t, w, h)
		}
		wantFiles(t, d, want)
	}
	if last < 30 {
		t.Errorf("%d segments", last)
	}
}

func TestOneSaveOfManyRecordsIsOneSegment(t *testing.T) {
	d := disk.New()
	w := mustOpen(t, d, 3)
	h := hard(1, 0, api.Log{}, "")
	want := termOf(1, 0)
	for i := range 100 {
		h.Log.Entries = append(h.Log.Entries, entry(1, "twenty bytes, or so, each"))
		want = joined(want, entryOf(uint64(i+1), 1, "twenty bytes, or so, each"))
	}
	mustSave(t, w, h)
	wantFiles(t, d, map[string]file{"g03s00000001": loose(want)})
}

func TestTwoGroupsOnOneDisk(t *testing.T) {
	d := disk.New()
	groups := []int{0, 3, 63}
	var ws []*Wal
	for _, group := range groups {
		ws = append(ws, mustOpen(t, d, group))
	}
	for i, w := range ws {
		h := hard(i+1, i, log(0, 0, i+1), "")
		mustSave(t, w, h)
	}
	ws[1].Flush()
	want := map[string]file{
		"g00s00000001": loose(termOf(1, 0), entryOf(1, 1, "e")),
		"g03s00000001": synced(termOf(2, 1), entryOf(1, 2, "e")),
		"g63s00000001": loose(termOf(3, 2), entryOf(1, 3, "e")),
	}
	wantFiles(t, d, want)
	mustSave(t, ws[1], hard(2, 1, log(1, 2), "three"))
	delete(want, "g03s00000001")
	want["g03s00000002"], want["g03p"] = synced(termOf(2, 1), baseOf(1, 2)), synced(snapOf(1, 2, "three"))
	wantFiles(t, d, want)
	ws[2].Flush()
	d.Append("g03s00000002", []byte("torn"))
	d.Append("g00s00000002", []byte("torn"))
	for _, group := range []int{1, 2, 30, 62} {
		wantHard(t, mustOpen(t, d, group), api.Hard{})
	}
	for i, group := range groups {
		wantHard(t, mustOpen(t, d, group), ws[i].Hard())
	}
	want["g63s00000001"] = synced(termOf(3, 2), entryOf(1, 3, "e"))
	wantFiles(t, d, want)
}
