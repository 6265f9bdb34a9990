package wal

import (
	"math"
	"slices"
	"strings"
	"testing"

	"funicular/api"
	"funicular/disk"
)

// 16.8: what is refused, and what is there of nothing

func TestOpenIsRefused(t *testing.T) {
	for _, group := range []int{-1, -64, math.MinInt, api.MaxParts, api.MaxParts + 1, math.MaxInt} {
		wantNoOpen(t, disk.New(), group, api.ErrArg)
		if w, err := Open(nil, group); w != nil || err != api.ErrArg {
			t.Errorf("Open of nil, %d = %v, %d", group, w, err)
		}
	}
	for _, group := range []int{0, 3, api.MaxParts - 1} {
		if w, err := Open(nil, group); w != nil || err != api.ErrArg {
			t.Errorf("Open of nil, %d = %v, %d", group, w, err)
		}
		mustOpen(t, disk.New(), group)
	}
	// of group 100 the names are those of group 0
	wantNoOpen(t, diskOf(map[string]file{"g00s00000001": synced(termOf(1, 1))}), 100, api.ErrArg)
}

func TestOpenOfADiskWithoutAFile(t *testing.T) {
	for _, group := range []int{0, 1, 3, 62, 63} {
		d := disk.New()
		w := mustOpen(t, d, group)
		wantHard(t, w, api.Hard{})
		wantFiles(t, d, map[string]file{})
		mustSave(t, w, hard(1, 1, api.Log{}, ""))
		wantFiles(t, d, map[string]file{Segment(group, 1): loose(termOf(1, 1))})
	}
	mustSave(t, mustOpen(t, &disk.Disk{}, 0), hard(1, 1, api.Log{}, "")) // it is one without files, too
}

func TestOpenDoesRecordsOneByOne(t *testing.T) {
	for _, c := range []struct {
		name    string
		records []byte
		want    api.Hard
	}{
		{"a term", termOf(2, 1), hard(2, 1, api.Log{}, "")},
		{"term 0", termOf(0, 0), api.Hard{}},
		{"term 0, and a vote", termOf(0, 7), hard(0, 7, api.Log{}, "")},
		{"the greatest", termOf(most, nodes), hard(most, nodes, api.Log{}, "")},
		{"two terms", joined(termOf(2, 1), termOf(3, 0)), hard(3, 0, api.Log{}, "")},
		{"the same term", joined(termOf(2, 1), termOf(2, 3)), hard(2, 3, api.Log{}, "")},
		{"an entry ahead of its term", joined(entryOf(1, 3, "e"), termOf(4, 1)), hard(4, 1, log(0, 0, 3), "")},
		{"an entry above the term", joined(termOf(2, 1), entryOf(1, 3, "e")), hard(3, 0, log(0, 0, 3), "")},
		{"an entry above a term behind", joined(entryOf(1, 3, "e"), termOf(2, 1)), hard(3, 0, log(0, 0, 3), "")},
		{"an entry at the term", joined(entryOf(1, 3, "e"), termOf(3, 1)), hard(3, 1, log(0, 0, 3), "")},
		{"an entry of the greatest term", entryOf(1, most, "e"), hard(most, 0, log(0, 0, most), "")},
		{"an entry that was above the term, but is cut off", joined(termOf(2, 1), entryOf(1, 3, "e"), cutOf(1)), hard(2, 1, api.Log{}, "")},
		{"a cut of all", joined(beganBytes(), cutOf(1)), hard(2, 1, api.Log{}, "")},
		{"a cut of the last", joined(beganBytes(), cutOf(3)), hard(2, 1, log(0, 0, 1, 2), "")},
		{"a cut, and another entry", joined(beganBytes(), cutOf(2), entryOf(2, 1, "other")), hard(2, 1, api.Log{Entries: []api.Entry{entry(1, "e"), entry(1, "other")}}, "")},
		{"a cut of all, and an entry of a term below", joined(beganBytes(), cutOf(2), cutOf(1), entryOf(1, 1, "f")), hard(2, 1, api.Log{Entries: []api.Entry{entry(1, "f")}}, "")},
	} {
		t.Run(c.name, func(t *testing.T) {
			all := map[string]file{"g03s00000001": synced(c.records)}
			wantOpen(t, all, 3, c.want, all)
			all = map[string]file{"g03s00000001": loose(c.records)} // nothing is synced that is good
			wantOpen(t, all, 3, c.want, all)
		})
	}
}

func TestOpenDoesABase(t *testing.T) {
	snap := snapOf(4, 2, "snap")
	for _, c := range []struct {
		name    string
		records []byte
		want    api.Hard
	}{
		{"alone", baseOf(4, 2), hard(2, 0, log(4, 2), "snap")},
		{"with a term", joined(termOf(5, 1), baseOf(4, 2)), hard(5, 1, log(4, 2), "snap")},
		{"an entry behind", joined(termOf(5, 1), baseOf(4, 2), entryOf(5, 3, "eeeee")), hard(5, 1, log(4, 2, 3), "snap")},
		{"an entry of the base's term", joined(termOf(5, 1), baseOf(4, 2), entryOf(5, 2, "eeeee")), hard(5, 1, log(4, 2, 2), "snap")},
		{"entries ahead of it are no more", joined(beganBytes(), baseOf(4, 2), entryOf(5, 2, "eeeee")), hard(2, 1, log(4, 2, 2), "snap")},
		{"another one above", joined(baseOf(3, 1), entryOf(4, 2, "eeee"), baseOf(4, 2)), hard(2, 0, log(4, 2), "snap")},
		{"another one below", joined(baseOf(9, 9), baseOf(4, 2)), hard(2, 0, log(4, 2), "snap")},
		{"the same", joined(baseOf(4, 2), entryOf(5, 2, "x"), baseOf(4, 2)), hard(2, 0, log(4, 2), "snap")},
		{"a cut behind", joined(baseOf(4, 2), entryOf(5, 2, "eeeee"), entryOf(6, 2, "x"), cutOf(6)), hard(2, 0, log(4, 2, 2), "snap")},
	} {
		t.Run(c.name, func(t *testing.T) {
			all := map[string]file{"g03s00000007": synced(c.records), "g03p": synced(snap)}
			wantOpen(t, all, 3, c.want, all)
		})
	}
}

func TestOpenOfManySegments(t *testing.T) {
	records := [][]byte{termOf(2, 1), entryOf(1, 1, "e"), entryOf(2, 2, "ee"), entryOf(3, 2, "eee")}
	want := hard(2, 1, log(0, 0, 1, 2, 2), "")
	for _, c := range []struct {
		name string
		seqs []int
	}{
		{"one by one", []int{1, 2, 3, 4}},
		{"from 0 on", []int{0, 1, 2, 3}},
		{"from one digit to two", []int{8, 9, 10, 11}},
		{"gaps", []int{2, 5, 100, 12345678}},
		{"the least and the greatest", []int{0, 1, 99999998, 99999999}},
		{"others of great numbers", []int{9999999, 10000000, 20000000, 90000000}},
	} {
		t.Run(c.name, func(t *testing.T) {
			all := map[string]file{}
			for i, seq := range c.seqs {
				all[Segment(3, seq)] = file{bytes: string(records[i]), loose: i % 2 * len(records[i])}
			}
			w := wantOpen(t, all, 3, want, all)
			if last := c.seqs[3]; w.segment() != Segment(3, last) {
				t.Errorf("the last segment is %s, want that of %d", w.segment(), last)
			}
		})
	}
}

func TestOpenGoesOnInTheLastSegment(t *testing.T) {
	all := map[string]file{"g03s00000003": synced(termOf(2, 1)), "g03s00000070": synced(entryOf(1, 1, "e"))}
	d := diskOf(all)
	w := mustOpen(t, d, 3)
	mustSave(t, w, hard(2, 1, log(0, 0, 1, 2), ""))
	all["g03s00000070"] = file{bytes: string(joined(entryOf(1, 1, "e"), entryOf(2, 2, "ee"))), loose: len(entryOf(2, 2, "ee"))}
	wantFiles(t, d, all)
	mustSave(t, w, hard(2, 1, log(2, 2), "s"))
	wantFiles(t, d, map[string]file{"g03p": synced(snapOf(2, 2, "s")), "g03s00000071": synced(termOf(2, 1), baseOf(2, 2))})
}

// A segment without bytes has no record that is looked at.
func TestSegmentsWithoutBytes(t *testing.T) {
	all := map[string]file{"g03s00000001": {}, "g03s00000004": synced(beganBytes()), "g03s00000006": {}, "g03s00000009": {}}
	d := diskOf(all)
	w := mustOpen(t, d, 3)
	wantHard(t, w, hard(2, 1, log(0, 0, 1, 2, 2), ""))
	wantFiles(t, d, all)
	mustSave(t, w, hard(2, 3, log(0, 0, 1, 2, 2), ""))
	all["g03s00000004"] = file{bytes: string(joined(beganBytes(), termOf(2, 3))), loose: len(termOf(2, 3))}
	wantFiles(t, d, all)
	mustSave(t, w, hard(2, 3, log(3, 2), ""))
	wantFiles(t, d, map[string]file{"g03p": synced(snapOf(3, 2, "")), "g03s00000005": synced(termOf(2, 3), baseOf(3, 2)), "g03s00000006": {}, "g03s00000009": {}})
	d = diskOf(map[string]file{"g03s00000004": {}})
	mustSave(t, mustOpen(t, d, 3), hard(1, 1, api.Log{}, ""))
	wantFiles(t, d, map[string]file{"g03s00000001": loose(termOf(1, 1)), "g03s00000004": {}})
}

// parts is three segments' records: 2 and vote 1 with entries up to 2; up to 4, of term 3; and one that is cut, and another one.
func parts() [][][]byte {
	return [][][]byte{
		{termOf(2, 1), entryOf(1, 1, "e"), entryOf(2, 2, "ee")},
		{termOf(3, 2), entryOf(3, 2, "eee"), entryOf(4, 3, "eeee")},
		{cutOf(4), entryOf(4, 3, "f"), termOf(4, 0)},
	}
}

// steps is what is hard behind so many of these records.
func steps() []api.Hard {
	last := log(0, 0, 1, 2, 2)
	other := api.Log{Entries: append(slices.Clone(last.Entries), entry(3, "f"))}
	return []api.Hard{
		{}, hard(2, 1, api.Log{}, ""), hard(2, 1, log(0, 0, 1), ""), hard(2, 1, log(0, 0, 1, 2), ""),
		hard(3, 2, log(0, 0, 1, 2), ""), hard(3, 2, log(0, 0, 1, 2, 2), ""), hard(3, 2, log(0, 0, 1, 2, 2, 3), ""),
		hard(3, 2, last, ""), hard(3, 2, other, ""), hard(4, 0, other, ""),
	}
}

func partFiles() map[string]file {
	all := map[string]file{}
	for i, records := range parts() {
		all[Segment(3, i+1)] = synced(records...)
	}
	return all
}

// upTo is the files of segments of which records are good up to one of a segment, and no bytes behind.
func upTo(segment, record int) map[string]file {
	all := map[string]file{}
	for i, records := range parts()[:segment+1] {
		if i == segment {
			records = records[:record]
		}
		if len(records) > 0 {
			all[Segment(3, i+1)] = synced(records...)
		}
	}
	return all
}

func TestSegmentsTornAtEveryByte(t *testing.T) {
	for segment, records := range parts() {
		begin := 0
		for i, record := range records {
			for n := range len(record) {
				if n == 0 && (segment < 2 || i == 0) {
					continue // nothing is torn: the next segment goes on
				}
				all := partFiles()
				name := Segment(3, segment+1)
				all[name] = file{bytes: all[name].bytes[:begin+n]}
				wantOpen(t, all, 3, steps()[3*segment+i], upTo(segment, i))
				wantSegment(t, all, segment+1) // the torn record was looked at
			}
			begin += len(record)
		}
	}
}

// wantSegment fails the test, if a wal that is opened on these files goes on in another segment.
func wantSegment(t *testing.T, all map[string]file, seq int) {
	t.Helper()
	d := diskOf(all)
	w := mustOpen(t, d, 3)
	h := w.Hard()
	h.Term, h.Vote = h.Term+100, 0
	had := files(d)
	mustSave(t, w, h)
	b := termOf(uint64(h.Term), 0)
	f := had[Segment(3, seq)]
	had[Segment(3, seq)] = file{bytes: f.bytes + string(b), loose: f.loose + len(b)}
	wantFiles(t, d, had)
}

func TestABitThatIsTurnedEndsTheRecords(t *testing.T) {
	for segment, records := range parts() {
		begin := 0
		for i, record := range records {
			for n := range record {
				all := partFiles()
				b := []byte(all[Segment(3, segment+1)].bytes)
				b[begin+n] ^= 1 << (n % 8)
				all[Segment(3, segment+1)] = synced(b)
				wantOpen(t, all, 3, steps()[3*segment+i], upTo(segment, i))
			}
			begin += len(record)
		}
	}
}

// 16.7: records that are whole, and may not stand, wherever they are

// bads is such as may not stand, though they are whole: some nowhere, some not behind that many of the records of parts.
func bads(h api.Hard) map[string][]byte {
	last := len(h.Log.Entries)
	term := uint64(0)
	if last > 0 {
		term = uint64(h.Log.Entries[last-1].Term)
	}
	next := uint64(last + 1)
	up := uint64(max(h.Term, 5))
	kind := func(k byte, numbers ...uint64) []byte { return rows([]byte{k}, numbers...) }
	all := map[string][]byte{
		"no bytes": {}, "kind 0 alone": {0}, "kind 0": kind(0, up, 1), "kind 5": kind(5, up, 1), "kind 255": kind(255, up, 1), "kind 129 of 1": {129, 0, byte(up), 1},
		"a term alone": kind(1, up), "a term without numbers": kind(1), "a term of three": kind(1, up, 1, 1), "a term, and a nought": kind(1, up, 1, 0),
		"a term above the greatest": kind(1, most+1, 1), "a term of 64 bits": kind(1, math.MaxUint64, 1), "a term of 63 bits": kind(1, 1<<63, 1),
		"a vote above the nodes": kind(1, up, nodes+1), "a vote above the greatest": kind(1, up, most+1), "a vote of 64 bits": kind(1, up, math.MaxUint64),
		"a term in a longer way": {1, byte(up) + 128, 0, 1}, "a vote in a longer way": {1, byte(up), 129, 0}, "a term without an end": {1, byte(up) + 128}, "a vote without an end": {1, byte(up), 129},
		"a term of eleven":         joined([]byte{1}, []byte(strings.Repeat("\x80", 10)), []byte{1, 1}),
		"an entry without numbers": kind(2), "an entry's place alone": kind(2, next), "an entry without a length": kind(2, next, up),
		"an entry at the last": with(kind(2, uint64(last), up), "x"), "an entry at 0": with(kind(2, 0, up), "x"), "an entry behind the next": with(kind(2, next+1, up), "x"),
		"an entry of term 0": with(kind(2, next, 0), "x"), "an entry above the greatest place": with(kind(2, most+1, up), "x"), "an entry of a term above the greatest": with(kind(2, next, most+1), "x"),
		"an entry of 64 bits": with(kind(2, math.MaxUint64, up), "x"), "an entry of a term of 64 bits": with(kind(2, next, math.MaxUint64), "x"), "an entry's place and 2 to the 32nd": with(kind(2, next+1<<32, up), "x"),
		"an entry, and a byte behind": append(with(kind(2, next, up), "x"), 'x'), "an entry of fewer bytes": with(kind(2, next, up), "xx")[:5], "an entry of very many": kind(2, next, up, math.MaxUint64),
		"an entry's length in a longer way": {2, byte(next), byte(up), 129, 0, 'x'}, "an entry's place in a longer way": {2, byte(next) + 128, 0, byte(up), 0}, "an entry's term in a longer way": {2, byte(next), byte(up) + 128, 0, 0},
		"a cut without a number": kind(3), "a cut of two": kind(3, 1, 1), "a cut at 0": kind(3, 0), "a cut behind the last": kind(3, next), "a cut above that": kind(3, next+1), "a cut above the greatest": kind(3, most+1),
		"a cut of 64 bits": kind(3, math.MaxUint64), "a cut in a longer way": {3, 129, 0}, "a cut without an end": {3, 129}, "a cut at 1 and 2 to the 32nd": kind(3, 1+1<<32), "a cut at the greatest": kind(3, most),
		"a base without numbers": kind(4), "a base's place alone": kind(4, 4), "a base of three": kind(4, 4, 2, 1), "a base at 0": kind(4, 0, 2), "a base of term 0": kind(4, 4, 0), "a base at 0 of term 0": kind(4, 0, 0),
		"a base above the greatest": kind(4, most+1, 2), "a base of a term above the greatest": kind(4, 4, most+1), "a base of 64 bits": kind(4, math.MaxUint64, 2), "a base's term of 64 bits": kind(4, 4, math.MaxUint64),
		"a base in a longer way": {4, 132, 0, 2}, "a base's term in a longer way": {4, 4, 130, 0}, "a base without an end": {4, 4, 130},
	}
	if h.Term > 0 {
		all["a term below"] = kind(1, uint64(h.Term-1), 1)
		all["term 0"] = kind(1, 0, 0)
	}
	if term > 1 {
		all["an entry of a term below"] = with(kind(2, next, term-1), "x")
	}
	return all
}

func TestRecordsThatMayNotStand(t *testing.T) {
	for segment, records := range parts() {
		for i := range len(records) + 1 {
			h := steps()[3*segment+i]
			for name, bad := range bads(h) {
				all := partFiles()
				was := slices.Clone(records)
				all[Segment(3, segment+1)] = synced(slices.Insert(was, i, framed(bad))...)
				t.Run(name, func(t *testing.T) {
					wantOpen(t, all, 3, h, upTo(segment, i))
					wantSegment(t, all, segment+1) // it was looked at
				})
				if t.Failed() {
					t.Fatalf("in segment %d, ahead of record %d", segment+1, i)
				}
			}
		}
	}
}

func TestRecordsThatMayJustStand(t *testing.T) {
	for segment, records := range parts() {
		for i := range len(records) + 1 {
			h := steps()[3*segment+i]
			l := h.Log
			next, term := len(l.Entries)+1, 1
			if next > 1 {
				term = l.Entries[next-2].Term
			}
			more := func(term int, text string) api.Log {
				return api.Log{Entries: append(slices.Clone(l.Entries), entry(term, text))}
			}
			raised := func(term int) api.Hard { return hard(term, 0, more(term, "x"), "") }
			for _, c := range []struct {
				name   string
				record []byte
				want   api.Hard
			}{
				{"the same term, another vote", termOf(uint64(h.Term), nodes), hard(h.Term, nodes, l, "")},
				{"the greatest term", termOf(most, 0), hard(most, 0, l, "")},
				{"an entry of the last one's term", entryOf(uint64(next), uint64(term), "x"), hard(max(h.Term, term), h.Vote, more(term, "x"), "")},
				{"an entry of the greatest term", entryOf(uint64(next), most, "x"), raised(most)},
				{"an entry without bytes", entryOf(uint64(next), uint64(max(term, h.Term)), ""), hard(max(h.Term, term), h.Vote, more(max(term, h.Term), ""), "")},
			} {
				all := upTo(segment, i)
				f := all[Segment(3, segment+1)]
				all[Segment(3, segment+1)] = synced([]byte(f.bytes), c.record)
				if h.Term < term { // the last entry's term is above it
					c.want.Vote = 0
				}
				if c.name[:3] == "the" {
					c.want.Vote = int(c.record[len(c.record)-1])
				}
				t.Run(c.name, func(t *testing.T) { wantOpen(t, all, 3, c.want, all) })
			}
			for at := 1; at < next; at++ {
				all := upTo(segment, i)
				f := all[Segment(3, segment+1)]
				all[Segment(3, segment+1)] = synced([]byte(f.bytes), cutOf(uint64(at)))
				wantOpen(t, all, 3, hard(h.Term, h.Vote, api.Log{Entries: l.Entries[:at-1]}, ""), all)
			}
		}
	}
}

func TestRecordsThatMayNotStandBehindABase(t *testing.T) {
	ahead := joined(termOf(5, 1), baseOf(4, 3), entryOf(5, 4, "eeeee"))
	snap := synced(snapOf(4, 3, "snap"))
	h := hard(5, 1, log(4, 3, 4), "snap")
	for name, bad := range map[string][]byte{
		"an entry at the last":             entryOf(5, 4, "x"),
		"an entry at the base":             entryOf(4, 4, "x"),
		"an entry at 1":                    entryOf(1, 4, "x"),
		"an entry at 2, how many there be": entryOf(2, 4, "x"),
		"an entry behind the next":         entryOf(7, 4, "x"),
		"an entry of a term below":         entryOf(6, 3, "x"),
		"a cut at the base":                cutOf(4),
		"a cut ahead of the base":          cutOf(1),
		"a cut behind the last":            cutOf(6),
		"a term below":                     termOf(4, 1),
		"a base at 0":                      baseOf(0, 3),
		"a base of term 0":                 baseOf(4, 0),
	} {
		t.Run(name, func(t *testing.T) {
			all := map[string]file{"g03p": snap, "g03s00000002": synced(ahead, bad, termOf(6, 1)), "g03s00000003": synced(termOf(7, 1))}
			wantOpen(t, all, 3, h, map[string]file{"g03p": snap, "g03s00000002": synced(ahead)})
		})
	}
	t.Run("an entry of a term below the base's", func(t *testing.T) {
		ahead := joined(termOf(5, 1), baseOf(4, 3))
		all := map[string]file{"g03p": snap, "g03s00000002": synced(ahead, entryOf(5, 2, "x"))}
		wantOpen(t, all, 3, hard(5, 1, log(4, 3), "snap"), map[string]file{"g03p": snap, "g03s00000002": synced(ahead)})
	})
}

// What is ahead of a record that is torn, or may not stand, is synced then.
func TestWhatIsAheadIsSynced(t *testing.T) {
	for _, tail := range [][]byte{{1}, []byte("some bytes that are no record"), framed(nil), cutOf(9)} {
		all := map[string]file{"g03s00000001": loose(termOf(1, 1)), "g03s00000002": loose(termOf(2, 1), tail), "g03s00000003": {}, "g03s00000004": loose(termOf(3, 1))}
		wantOpen(t, all, 3, hard(2, 1, api.Log{}, ""), map[string]file{"g03s00000001": loose(termOf(1, 1)), "g03s00000002": synced(termOf(2, 1))})
	}
}

// The last segment is the last one of which a record was looked at, though nothing of it is left.
func TestASegmentOfWhichNothingIsLeft(t *testing.T) {
	for _, bad := range [][]byte{{1}, framed(nil), cutOf(9), termOf(1, 1)[:10]} {
		d := diskOf(map[string]file{"g03s00000004": synced(beganBytes()), "g03s00000008": synced(bad, termOf(8, 1)), "g03s00000009": synced(termOf(9, 1))})
		w := mustOpen(t, d, 3)
		wantFiles(t, d, map[string]file{"g03s00000004": synced(beganBytes())})
		mustSave(t, w, hard(2, 1, log(3, 2), "snap"))
		wantFiles(t, d, map[string]file{"g03p": synced(snapOf(3, 2, "snap")), "g03s00000009": synced(termOf(2, 1), baseOf(3, 2))})
		d = diskOf(map[string]file{"g03s00000008": synced(bad)})
		w = mustOpen(t, d, 3)
		wantFiles(t, d, map[string]file{})
		mustSave(t, w, hard(2, 1, api.Log{}, ""))
		wantFiles(t, d, map[string]file{"g03s00000008": loose(termOf(2, 1))})
	}
}

// 16.8: the snapshot

func TestASnapshotThatIsNone(t *testing.T) {
	whole := snapOf(4, 2, "snap")
	bad := map[string][]byte{
		"a byte behind": append(slices.Clone(whole), 0), "another one behind": joined(whole, whole), "a record behind": joined(whole, termOf(5, 2)), "a piece behind": joined(whole, whole[:9]),
		"an empty record": framed(nil), "an empty one ahead": joined(framed(nil), whole), "a byte ahead": joined([]byte{0}, whole), "no record": []byte("snap"),
		"base 0": snapOf(0, 2, "snap"), "term 0": snapOf(4, 0, "snap"), "base 0 of term 0": snapOf(0, 0, "snap"), "base 0 without bytes": snapOf(0, 0, ""),
		"a base above the greatest": snapOf(most+1, 2, "snap"), "a term above the greatest": snapOf(4, most+1, "snap"), "a base of 64 bits": snapOf(math.MaxUint64, 2, "snap"), "a term of 64 bits": snapOf(4, math.MaxUint64, "snap"),
		"a base alone": framed(rows(nil, 4)), "no bytes": framed(rows(nil, 4, 2)), "fewer bytes": framed(append(rows(nil, 4, 2, 5), "snap"...)), "more bytes": framed(append(rows(nil, 4, 2, 3), "snap"...)),
		"very many bytes": framed(append(rows(nil, 4, 2, math.MaxUint64), "snap"...)), "a byte that says what it is": framed(with(rows([]byte{4}, 4, 2), "snap")),
		"a base in a longer way": framed(with([]byte{132, 0, 2}, "snap")), "a term in a longer way": framed(with([]byte{4, 130, 0}, "snap")), "a length in a longer way": framed([]byte{4, 2, 132, 0, 's', 'n', 'a', 'p'}),
		"a length without an end": framed([]byte{4, 2, 132}),
	}
	for name, b := range bad {
		t.Run(name, func(t *testing.T) { wantNoSnapshot(t, b) })
	}
	for n := range len(whole) {
		t.Run("torn", func(t *testing.T) { wantNoSnapshot(t, whole[:n]) })
		turned := slices.Clone(whole)
		turned[n] ^= 1 << (n % 8)
		t.Run("turned", func(t *testing.T) { wantNoSnapshot(t, turned) })
	}
}

// wantNoSnapshot fails the test, if a snapshot's file of those bytes is taken for one, whatever the log is, or if the disk is changed.
func wantNoSnapshot(t *testing.T, b []byte) {
	t.Helper()
	for _, snap := range []file{synced(b), loose(b)} {
		for _, records := range [][]byte{nil, termOf(1, 1), beganBytes(), baseOf(4, 2), baseOf(9, 9), joined(beganBytes(), []byte("torn"))} {
			all := map[string]file{"g03p": snap, "g03s00000002": loose(records), "g03s00000003": loose([]byte("torn")), "g03s00000004": synced(termOf(9, 1))}
			wantNoOpen(t, diskOf(all), 3, api.ErrSum)
			wantOpen(t, all, 4, api.Hard{}, all) // of another group it is nothing
		}
	}
}

func TestASnapshotBelowTheLogsBase(t *testing.T) {
	for _, records := range [][]byte{baseOf(5, 2), joined(baseOf(5, 2), entryOf(6, 2, "x")), joined(termOf(9, 1), baseOf(most, 9)), joined(baseOf(5, 2), []byte("torn"))} {
		wantNoOpen(t, diskOf(map[string]file{"g03p": synced(snapOf(4, 2, "snap")), "g03s00000002": loose(records)}), 3, api.ErrState)
	}
	// a base that another record took back is none
	all := map[string]file{"g03p": synced(snapOf(4, 2, "snap")), "g03s00000002": loose(baseOf(5, 2), baseOf(4, 2))}
	wantOpen(t, all, 3, hard(2, 0, log(4, 2), "snap"), all)
}

func TestNoSnapshot(t *testing.T) {
	for _, records := range [][]byte{baseOf(1, 1), joined(baseOf(5, 2), entryOf(6, 2, "x")), joined(beganBytes(), baseOf(5, 2)), joined(baseOf(5, 2), []byte("torn"))} {
		all := map[string]file{"g03s00000002": loose(records), "g04p": synced(snapOf(5, 2, "another group's"))}
		wantNoOpen(t, diskOf(all), 3, api.ErrState)
	}
	all := map[string]file{"g03s00000002": loose(beganBytes())}
	wantOpen(t, all, 3, hard(2, 1, log(0, 0, 1, 2, 2), ""), all)
}

func TestASnapshotAtTheLogsBase(t *testing.T) {
	records := joined(termOf(5, 1), baseOf(4, 2), entryOf(5, 2, "eeeee"), entryOf(6, 5, "eeeeee"))
	for _, c := range []struct {
		name string
		snap []byte
		want api.Hard
	}{
		{"of its term", snapOf(4, 2, "snap"), hard(5, 1, log(4, 2, 2, 5), "snap")},
		{"without bytes", snapOf(4, 2, ""), hard(5, 1, log(4, 2, 2, 5), "")},
		{"of another term", snapOf(4, 1, "snap"), hard(5, 1, log(4, 1), "snap")},
		{"of a term above all", snapOf(4, 9, "snap"), hard(9, 0, log(4, 9), "snap")},
	} {
		t.Run(c.name, func(t *testing.T) {
			all := map[string]file{"g03p": synced(c.snap), "g03s00000002": loose(records)}
			wantOpen(t, all, 3, c.want, all) // no other segment begins
		})
	}
}

func TestASnapshotAboveTheLogsBase(t *testing.T) {
	for _, c := range []struct {
		name    string
		records []byte
		snap    []byte
		want    api.Hard
	}{
		{"no log", nil, snapOf(4, 2, "snap"), hard(2, 0, log(4, 2), "snap")},
		{"a term alone", termOf(1, 1), snapOf(4, 2, "snap"), hard(2, 0, log(4, 2), "snap")},
		{"a term at that", termOf(2, 1), snapOf(4, 2, "snap"), hard(2, 1, log(4, 2), "snap")},
		{"a term above", termOf(3, 1), snapOf(4, 2, "snap"), hard(3, 1, log(4, 2), "snap")},
		{"at an entry, of its term", beganBytes(), snapOf(2, 2, "snap"), hard(2, 1, log(2, 2, 2), "snap")},
		{"at the first entry", beganBytes(), snapOf(1, 1, ""), hard(2, 1, log(1, 1, 2, 2), "")},
		{"at the last entry", beganBytes(), snapOf(3, 2, "snap"), hard(2, 1, log(3, 2), "snap")},
		{"at an entry, of another term", beganBytes(), snapOf(2, 1, "snap"), hard(2, 1, log(2, 1), "snap")},
		{"at an entry, of a term above all", beganBytes(), snapOf(2, 9, "snap"), hard(9, 0, log(2, 9), "snap")},
		{"behind the last entry", beganBytes(), snapOf(4, 2, "snap"), hard(2, 1, log(4, 2), "snap")},
		{"far behind", beganBytes(), snapOf(most, most, "snap"), hard(most, 0, log(most, most), "snap")},
		{"above a base", joined(termOf(5, 1), baseOf(4, 2), entryOf(5, 2, "eeeee"), entryOf(6, 5, "eeeeee")), snapOf(5, 2, "snap"), hard(5, 1, log(5, 2, 5), "snap")},
		{"above a base, of another term", joined(termOf(5, 1), baseOf(4, 2), entryOf(5, 2, "eeeee")), snapOf(5, 3, "snap"), hard(5, 1, log(5, 3), "snap")},
		{"a log that is torn", joined(beganBytes(), []byte("torn")), snapOf(1, 1, "snap"), hard(2, 1, log(1, 1, 2, 2), "snap")},
		{"an entry above the term", joined(termOf(2, 1), entryOf(1, 1, "e"), entryOf(2, 8, "ee")), snapOf(1, 1, "snap"), hard(8, 0, log(1, 1, 8), "snap")},
	} {
		t.Run(c.name, func(t *testing.T) {
			all := map[string]file{"g03p": loose(c.snap), "g03s00000007": loose(c.records), "g04s00000001": loose(termOf(4, 4))}
			last := 8
			if len(c.records) == 0 {
				last = 2
				delete(all, "g03s00000007")
			}
			want := joined(termOf(uint64(c.want.Term), uint64(c.want.Vote)), baseOf(uint64(c.want.Log.Base), uint64(c.want.Log.BaseTerm)))
			for i, e := range c.want.Log.Entries {
				want = joined(want, entryOf(uint64(c.want.Log.Base+i+1), uint64(e.Term), string(e.Data)))
			}
			left := map[string]file{"g03p": synced(c.snap), Segment(3, last): synced(want), "g04s00000001": loose(termOf(4, 4))}
			wantOpen(t, all, 3, c.want, left)
		})
	}
}

func TestASnapshotAboveALogThatEndsEarly(t *testing.T) {
	for _, bad := range [][]byte{{1}, framed(nil), cutOf(9)} {
		all := map[string]file{
			"g03p": synced(snapOf(2, 2, "snap")), "g03s00000004": synced(beganBytes()), "g03s00000008": loose(bad, termOf(8, 1)), "g03s00000009": {}, "g03s00000011": loose(termOf(9, 1)),
		}
		left := map[string]file{"g03p": synced(snapOf(2, 2, "snap")), "g03s00000009": synced(termOf(2, 1), baseOf(2, 2), entryOf(3, 2, "eee"))}
		wantOpen(t, all, 3, hard(2, 1, log(2, 2, 2), "snap"), left)
	}
}

func TestOpenKeepsNothingOfTheDisksMemory(t *testing.T) {
	_, d, h := behind(t)
	w := mustOpen(t, d, 3)
	d.Replace("g03p", snapOf(4, 2, "!!!!"))
	d.Replace("g03s00000002", joined(termOf(9, 9), baseOf(9, 9)))
	wantHard(t, w, h)
}
