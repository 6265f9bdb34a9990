package wal

import (
	"encoding/binary"
	"hash/crc32"
	"math/big"
	"math/rand"
	"reflect"
	"regexp"
	"slices"
	"strconv"
	"testing"

	"funicular/api"
	"funicular/disk"
)

// worded is a wal in the document's words, sentence by sentence: the disk is a map of files, and a log is what stands at which place.
type worded struct {
	all            map[string]file
	group, last    int
	term, vote     int
	base, baseTerm int
	at             map[int]api.Entry
	snap           string
}

func (w *worded) segmentName(seq int) string {
	text := strconv.Itoa(100000000 + seq)
	return "g" + strconv.Itoa(100 + w.group)[1:] + "s" + text[len(text)-8:]
}

func (w *worded) snapshotName() string { return "g" + strconv.Itoa(100 + w.group)[1:] + "p" }

// numbers is those of the group's segments that there are, rising.
func (w *worded) numbers() []int {
	form := regexp.MustCompile("^g" + strconv.Itoa(100 + w.group)[1:] + "s([0-9]{8})$")
	var list []int
	for name := range w.all {
		if found := form.FindStringSubmatch(name); found != nil {
			seq, _ := strconv.Atoi(found[1])
			list = append(list, seq)
		}
	}
	slices.Sort(list)
	return list
}

func (w *worded) lastPlace() int {
	at := w.base
	for w.at[at+1].Term > 0 {
		at++
	}
	return at
}

func (w *worded) lastTerm() int {
	if w.lastPlace() == w.base {
		return w.baseTerm
	}
	return w.at[w.lastPlace()].Term
}

func (w *worded) hard() api.Hard {
	h := api.Hard{Term: w.term, Vote: w.vote, Log: api.Log{Base: w.base, BaseTerm: w.baseTerm}, Snap: []byte(w.snap)}
	for at := w.base + 1; at <= w.lastPlace(); at++ {
		h.Log.Entries = append(h.Log.Entries, w.at[at])
	}
	return h
}

func (w *worded) set(h api.Hard) {
	w.term, w.vote, w.base, w.baseTerm, w.snap = h.Term, h.Vote, h.Log.Base, h.Log.BaseTerm, string(h.Snap)
	w.at = map[int]api.Entry{}
	for i, e := range plain(h).Log.Entries {
		w.at[h.Log.Base+1+i] = e
	}
}

// replace is the disk's.
func (w *worded) replace(name, text string) {
	delete(w.all, name)
	if text != "" {
		w.all[name] = file{bytes: text}
	}
}

func (w *worded) begin() {
	w.last++
	w.replace(w.snapshotName(), string(snapOf(uint64(w.base), uint64(w.baseTerm), w.snap)))
	b := joined(termOf(uint64(w.term), uint64(w.vote)), baseOf(uint64(w.base), uint64(w.baseTerm)))
	for at := w.base + 1; at <= w.lastPlace(); at++ {
		b = joined(b, entryOf(uint64(at), uint64(w.at[at].Term), string(w.at[at].Data)))
	}
	w.replace(w.segmentName(w.last), string(b))
	for _, seq := range w.numbers() {
		if seq < w.last {
			w.replace(w.segmentName(seq), "")
		}
	}
}

func between(n, least, greatest int) bool { return least <= n && n <= greatest }

func wordedCheck(h api.Hard) bool {
	l := h.Log
	if !between(h.Term, 0, most) || !between(h.Vote, 0, nodes) || !between(l.Base, 0, most) || !between(l.BaseTerm, 0, most) {
		return false
	}
	if (l.Base == 0) != (l.BaseTerm == 0) || l.Base == 0 && len(h.Snap) > 0 {
		return false
	}
	ahead := l.BaseTerm
	for _, e := range l.Entries {
		if !between(e.Term, 1, most) || e.Term < ahead {
			return false
		}
		ahead = e.Term
	}
	return ahead <= h.Term
}

func (w *worded) save(h api.Hard) api.Errno {
	switch {
	case !wordedCheck(h):
		return api.ErrArg
	case h.Term < w.term || h.Log.Base < w.base:
		return api.ErrState
	case h.Log.Base == w.base && (h.Log.BaseTerm != w.baseTerm || string(h.Snap) != w.snap):
		return api.ErrState
	case h.Log.Base > w.base:
		w.set(h)
		w.begin()
		return api.OK
	}
	var b []byte
	if h.Term != w.term || h.Vote != w.vote {
		b = termOf(uint64(h.Term), uint64(h.Vote))
	}
	was, had := w.at, w.lastPlace()
	w.set(h)
	first := w.base + 1
	for first <= had && w.at[first].Term == was[first].Term && string(w.at[first].Data) == string(was[first].Data) {
		first++
	}
	if first <= had {
		b = joined(b, cutOf(uint64(first)))
	}
	for at := first; at <= w.lastPlace(); at++ {
		b = joined(b, entryOf(uint64(at), uint64(w.at[at].Term), string(w.at[at].Data)))
	}
	if len(b) == 0 {
		return api.OK
	}
	if len(w.all[w.segmentName(w.last)].bytes) > full {
		w.flush()
		w.last++
	}
	f := w.all[w.segmentName(w.last)]
	w.all[w.segmentName(w.last)] = file{bytes: f.bytes + string(b), loose: f.loose + len(b)}
	return api.OK
}

func (w *worded) flush() {
	if f, there := w.all[w.segmentName(w.last)]; there {
		w.all[w.segmentName(w.last)] = file{bytes: f.bytes}
	}
}

// wordedNumber reads a number that is at most MaxIndex, digit by digit.
func wordedNumber(b []byte) (int, []byte, bool) {
	n := new(big.Int)
	for i, c := range b {
		if i == 10 {
			break
		}
		n.Add(n, new(big.Int).Lsh(big.NewInt(int64(c&127)), uint(7*i)))
		if c >= 128 {
			continue
		}
		ok := (i == 0 || c > 0) && n.Cmp(big.NewInt(most)) <= 0
		return int(n.Int64()), b[i+1:], ok
	}
	return 0, nil, false
}

// wordedNumbers reads so many, and tells the bytes behind.
func wordedNumbers(b []byte, many int) ([]int, []byte, bool) {
	var list []int
	for range many {
		n, rest, ok := wordedNumber(b)
		if !ok {
			return nil, nil, false
		}
		list, b = append(list, n), rest
	}
	return list, b, true
}

// wordedText: do bytes have their number ahead, and nothing behind?
func wordedText(b []byte) (string, bool) {
	n, rest, ok := wordedNumber(b)
	return string(rest), ok && n == len(rest)
}

// wordedFrame is the record that bytes begin with, and the bytes behind.
func wordedFrame(b []byte) ([]byte, []byte, bool) {
	if len(b) < 8 || uint64(binary.LittleEndian.Uint32(b)) > uint64(len(b)-8) {
		return nil, nil, false
	}
	n := binary.LittleEndian.Uint32(b)
	record := b[8 : 8+n]
	sum := crc32.ChecksumIEEE(joined(b[:4], record))
	return record, b[8+n:], binary.LittleEndian.Uint32(b[4:]) == sum
}

func (w *worded) do(b []byte) bool {
	if len(b) == 0 || b[0] < 1 || b[0] > 4 {
		return false
	}
	list, rest, ok := wordedNumbers(b[1:], []int{0, 2, 2, 1, 2}[b[0]])
	if !ok {
		return false
	}
	if b[0] == 2 {
		text, ok := wordedText(rest)
		if !ok || list[0] != w.lastPlace()+1 || list[1] < w.lastTerm() || list[1] < 1 {
			return false
		}
		w.at[list[0]] = api.Entry{Term: list[1], Data: []byte(text)}
		return true
	}
	if len(rest) > 0 {
		return false
	}
	switch b[0] {
	case 1:
		if list[0] < w.term || list[1] > nodes {
			return false
		}
		w.term, w.vote = list[0], list[1]
	case 3:
		if !between(list[0], w.base+1, w.lastPlace()) {
			return false
		}
		for at := w.lastPlace(); at >= list[0]; at-- {
			delete(w.at, at)
		}
	case 4:
		if list[0] < 1 || list[1] < 1 {
			return false
		}
		w.base, w.baseTerm, w.at = list[0], list[1], map[int]api.Entry{}
	}
	return true
}

// redo does all records, and takes away what may not stand.
func (w *worded) redo() {
	seqs := w.numbers()
	for i, seq := range seqs {
		name := w.segmentName(seq)
		b := []byte(w.all[name].bytes)
		for good := 0; good < len(b); {
			w.last = seq
			record, rest, ok := wordedFrame(b[good:])
			if !ok || !w.do(record) {
				w.replace(name, string(b[:good]))
				for _, later := range seqs[i+1:] {
					w.replace(w.segmentName(later), "")
				}
				return
			}
			good = len(b) - len(rest)
		}
	}
}

func (w *worded) readSnapshot() api.Errno {
	f, there := w.all[w.snapshotName()]
	if !there {
		if w.base > 0 {
			return api.ErrState
		}
		return api.OK
	}
	record, rest, ok := wordedFrame([]byte(f.bytes))
	if !ok || len(rest) > 0 {
		return api.ErrSum
	}
	list, rest, ok := wordedNumbers(record, 2)
	if !ok || list[0] < 1 || list[1] < 1 {
		return api.ErrSum
	}
	text, ok := wordedText(rest)
	if !ok {
		return api.ErrSum
	}
	if list[0] < w.base {
		return api.ErrState
	}
	fits := w.at[list[0]].Term == list[1] || list[0] == w.base && list[1] == w.baseTerm
	for at := range w.at {
		if !fits || at <= list[0] {
			delete(w.at, at)
		}
	}
	w.base, w.baseTerm, w.snap = list[0], list[1], text
	return api.OK
}

// wordedOpen opens a group on files, which an error leaves as they are.
func wordedOpen(all map[string]file, group int) (*worded, api.Errno) {
	had := map[string]file{}
	for name, f := range all {
		had[name] = f
	}
	w := &worded{all: all, group: group, last: 1, at: map[int]api.Entry{}}
	w.redo()
	base := w.base
	if err := w.readSnapshot(); err != api.OK {
		clear(all)
		for name, f := range had {
			all[name] = f
		}
		return nil, err
	}
	if w.lastTerm() > w.term {
		w.term, w.vote = w.lastTerm(), 0
	}
	if w.base > base {
		w.begin()
	}
	return w, api.OK
}

// wantAlike fails the test, if a wal's disk and what it says are not as the words have it.
func wantAlike(t *testing.T, w *Wal, m *worded, all map[string]file) {
	t.Helper()
	if !reflect.DeepEqual(files(w.disk), all) {
		t.Fatalf("files %v, want %v", files(w.disk), all)
	}
	if got, want := w.Hard(), m.hard(); !equal(got, want) {
		t.Fatalf("hard %v, want %v", got, want)
	}
}

// drawn is numbers and things by chance, the same in each run of the tests.
type drawn struct{ *rand.Rand }

func (r drawn) text() string {
	return []string{"", "x", "y", "xy", bulk[:60], bulk[:127], bulk}[r.Intn(7)]
}

const bulk = "some more bytes than most have, so that a segment has its fill soon, and the next one begins, which must be synced, .. and there is more behind that"

// next is what may be hard behind what was: the log grows, or ends in another way, or is cut, or begins later; the term rises, the vote is another one.
func (r drawn) next(h api.Hard) api.Hard {
	h = plain(h)
	if h.Term == 0 || r.Intn(3) == 0 {
		h.Term = max(h.Term, 1)
		h.Term, h.Vote = h.Term+r.Intn(3), r.Intn(nodes+1)
	}
	n := len(h.Log.Entries)
	switch r.Intn(7) {
	case 0:
		h.Log.Entries = h.Log.Entries[:r.Intn(n+1)]
	case 1, 2:
		if n > 0 {
			e := &h.Log.Entries[r.Intn(n)]
			e.Data = []byte(r.text())
		}
	case 3:
		r.compact(&h)
	case 4:
		h.Log.Entries = h.Log.Entries[:n-r.Intn(n+1)/2]
	}
	for range r.Intn(4) {
		h.Log.Entries = append(h.Log.Entries, entry(r.termFor(h), r.text()))
	}
	return h
}

// termFor is a term that the next entry may have.
func (r drawn) termFor(h api.Hard) int {
	least := max(h.Log.BaseTerm, 1)
	if n := len(h.Log.Entries); n > 0 {
		least = h.Log.Entries[n-1].Term
	}
	return least + r.Intn(max(h.Term-least, 0)+1)
}

// compact has a log begin at a later place: at one of its entries, or behind them all.
func (r drawn) compact(h *api.Hard) {
	n := len(h.Log.Entries)
	if h.Term == 0 {
		return
	}
	h.Snap = []byte(r.text())
	if n == 0 || r.Intn(4) == 0 {
		h.Log = api.Log{Base: h.Log.Base + n + 1 + r.Intn(200), BaseTerm: r.termFor(*h)}
		return
	}
	k := 1 + r.Intn(n)
	h.Log = api.Log{Base: h.Log.Base + k, BaseTerm: h.Log.Entries[k-1].Term, Entries: h.Log.Entries[k:]}
}

// wrong is what may perhaps not be saved.
func (r drawn) wrong(h api.Hard) api.Hard {
	h = r.next(h)
	for _, p := range []*int{&h.Term, &h.Vote, &h.Log.Base, &h.Log.BaseTerm} {
		if r.Intn(4) == 0 {
			*p += []int{-9, -1, 1, 7, most}[r.Intn(5)]
		}
	}
	if r.Intn(4) == 0 {
		h.Snap = []byte(r.text())
	}
	if n := len(h.Log.Entries); n > 0 && r.Intn(4) == 0 {
		h.Log.Entries[r.Intn(n)].Term += []int{-9, -1, 1, 7, most}[r.Intn(5)]
	}
	return h
}

// record is one that may stand somewhere, or nowhere.
func (r drawn) record(h api.Hard) []byte {
	near := func(n int) uint64 {
		if r.Intn(9) == 0 {
			return uint64([]int{0, 1, most, most + 1}[r.Intn(4)])
		}
		return uint64(max(n-1+r.Intn(3), 0))
	}
	last := h.Log.Base + len(h.Log.Entries)
	switch r.Intn(6) {
	case 0:
		return termOf(near(h.Term+1), near(7))
	case 1:
		return entryOf(near(last+1), near(h.Term), r.text())
	case 2:
		return cutOf(near(last))
	case 3:
		return baseOf(near(h.Log.Base+1), near(h.Log.BaseTerm+1))
	}
	body := make([]byte, r.Intn(8))
	for i := range body {
		body[i] = []byte{0, 1, 2, 3, 4, 5, 127, 128, 129, 255}[r.Intn(10)]
	}
	return framed(body)
}

// fault lets a group's files be others than its wal left them.
func (r drawn) fault(all map[string]file, m *worded) {
	name := m.snapshotName()
	seqs := m.numbers()
	if len(seqs) > 0 && r.Intn(4) > 0 {
		name = m.segmentName(seqs[r.Intn(len(seqs))])
	}
	f := all[name]
	at := r.Intn(len(f.bytes) + 1)
	switch r.Intn(8) {
	case 0:
		delete(all, name)
	case 1:
		m.replace(name, f.bytes[:at])
	case 2:
		if b := []byte(f.bytes); at < len(b) {
			b[at] ^= 1 << r.Intn(8)
			all[name] = file{bytes: string(b), loose: f.loose}
		}
	case 3, 4:
		b := string(r.record(m.hard()))
		all[name] = file{bytes: f.bytes + b, loose: f.loose + len(b)}
	case 5:
		all[m.segmentName(m.last+r.Intn(4))] = synced(r.record(m.hard()), r.record(m.hard()))
	case 6:
		delete(all, name)
		all[m.segmentName(r.Intn(m.last+5))] = f
	case 7:
		at := m.base + r.Intn(8)
		term := max(m.baseTerm, m.at[at].Term) + r.Intn(2)
		m.replace(m.snapshotName(), string(snapOf(uint64(at), uint64(term), r.text())))
	}
}

// fall is the disk's crash, file by file.
func (r drawn) fall(all map[string]file) []int {
	var names []string
	for name := range all {
		names = append(names, name)
	}
	slices.Sort(names)
	var keep []int
	for _, name := range names {
		f := all[name]
		n := r.Intn(f.loose + 1)
		keep = append(keep, n)
		text := f.bytes[:len(f.bytes)-f.loose+n]
		delete(all, name)
		if text != "" {
			all[name] = file{bytes: text}
		}
	}
	return keep
}

// both is the wals of two groups on one disk, and what the words make of them; and how often each error was answered.
type both struct {
	disk   *disk.Disk
	all    map[string]file
	wals   [2]*Wal
	worded [2]*worded
	opened map[api.Errno]int
	saved  map[api.Errno]int
}

var bothGroups = [2]int{0, 63}

// open opens both anew. What can't be opened loses all its files, and begins anew.
func (b *both) open(t *testing.T) {
	t.Helper()
	for i := 0; i < len(bothGroups); i++ {
		group := bothGroups[i]
		w, err := Open(b.disk, group)
		m, want := wordedOpen(b.all, group)
		if err != want || (w == nil) != (m == nil) {
			t.Fatalf("Open of %v: %v, %d, want %d", b.all, w, err, want)
		}
		if got := files(b.disk); !reflect.DeepEqual(got, b.all) {
			t.Fatalf("files %v, want %v", got, b.all)
		}
		b.opened[err]++
		b.wals[i], b.worded[i] = w, m
		if w == nil {
			b.empty(group)
			i = -1 // the disk is another one now
		}
	}
}

// empty takes away all of a group's files.
func (b *both) empty(group int) {
	gone := &worded{all: b.all, group: group}
	for _, seq := range gone.numbers() {
		delete(b.all, gone.segmentName(seq))
	}
	delete(b.all, gone.snapshotName())
	b.disk = diskOf(b.all)
}

func (b *both) save(t *testing.T, i int, h api.Hard) {
	t.Helper()
	was := b.worded[i].hard()
	err := b.wals[i].Save(h)
	if want := b.worded[i].save(h); err != want {
		t.Fatalf("Save(%v) behind %v = %d, want %d", h, was, err, want)
	}
	b.saved[err]++
}

// act is one of all that may come upon one of them.
func (b *both) act(t *testing.T, r drawn) {
	t.Helper()
	i := r.Intn(2)
	switch r.Intn(14) {
	case 0:
		b.wals[i].Flush()
		b.worded[i].flush()
	case 1:
		b.disk.Crash(r.fall(b.all))
		b.open(t)
	case 2:
		if r.Intn(3) == 0 {
			r.fault(b.all, b.worded[i])
			b.disk = diskOf(b.all)
		}
		b.open(t)
	case 3:
		b.save(t, i, r.wrong(b.worded[i].hard()))
	default:
		b.save(t, i, r.next(b.worded[i].hard()))
	}
}

// TestAsWorded holds wals against the words, whatever they are given, and whatever comes upon their disk.
func TestAsWorded(t *testing.T) {
	opened, saved := map[api.Errno]int{}, map[api.Errno]int{}
	for seed := range int64(400) {
		r := drawn{rand.New(rand.NewSource(seed))}
		b := &both{disk: disk.New(), all: map[string]file{}, opened: opened, saved: saved}
		b.open(t)
		for range 120 {
			b.act(t, r)
			wantAlike(t, b.wals[0], b.worded[0], b.all)
			wantAlike(t, b.wals[1], b.worded[1], b.all)
		}
	}
	for _, e := range []api.Errno{api.OK, api.ErrSum, api.ErrState} {
		if opened[e] < 50 {
			t.Errorf("only %d answers %d of Open", opened[e], e)
		}
	}
	for _, e := range []api.Errno{api.OK, api.ErrArg, api.ErrState} {
		if saved[e] < 50 {
			t.Errorf("only %d answers %d of Save", saved[e], e)
		}
	}
}
