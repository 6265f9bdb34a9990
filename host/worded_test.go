package host

import (
	"math/big"
	"reflect"
	"testing"

	"funicular/api"
	"funicular/disk"
	"funicular/logs"
	"funicular/packet"
	"funicular/raft"
	"funicular/wal"
)

// worded is a host as the chapter's words have it, promise by promise, on a disk of its own.
type worded struct {
	id      int
	groups  int
	d       *disk.Disk
	member  map[int]api.Raft
	records map[int]*wal.Wal
	firm    map[int]int
	taken   map[int]int
	waiting []api.Msg
}

// wordedOpen is 18.1, on a copy of a disk, which tells the error, too, where a group is wrong.
func wordedOpen(id, n, groups int, all map[string]file) (*worded, api.Errno) {
	if groups <= 0 || groups >= 65 {
		return nil, 2
	}
	if _, err := raft.New(id, n); err != 0 {
		return nil, err
	}
	w := &worded{id: id, groups: groups, d: diskOf(all), member: map[int]api.Raft{}, records: map[int]*wal.Wal{}, firm: map[int]int{}, taken: map[int]int{}}
	for g := 0; g < groups; g++ {
		var err api.Errno
		if w.records[g], err = wal.Open(w.d, g); err != 0 {
			return nil, err
		}
		x := w.records[g].Hard()
		if w.member[g], err = raft.Restart(id, n, x.Term, x.Vote, x.Log, x.Snap); err != 0 {
			return nil, err
		}
		w.firm[g], w.taken[g] = w.member[g].Commit, 0
	}
	return w, 0
}

// another is 18.2.
func (w *worded) another(g int, r api.Raft, sends []api.Msg) {
	w.member[g] = r
	w.records[g].Save(api.Hard{Term: r.Term, Vote: r.Vote, Log: r.Log, Snap: r.Snap})
	for _, m := range sends {
		m.Group = g
		w.waiting = append(w.waiting, m)
	}
}

func (w *worded) here(g int) bool { _, found := w.member[g]; return found }

// tick is 18.3.
func (w *worded) tick(draw int) {
	left := new(big.Int).Mod(new(big.Int).SetUint64(uint64(draw)), big.NewInt(10))
	for g := 0; g < w.groups; g++ {
		r, sends := raft.Tick(w.member[g], int(left.Int64())+g)
		w.another(g, r, sends)
	}
}

// receive is 18.4.
func (w *worded) receive(p api.Packet) api.Errno {
	if err := packet.Check(p); err != 0 {
		return err
	}
	if p.To != w.id {
		return 1
	}
	for _, m := range p.Msgs {
		if w.here(m.Group) {
			r, sends := raft.Receive(w.member[m.Group], m)
			w.another(m.Group, r, sends)
		}
	}
	return 0
}

// propose is 18.5.
func (w *worded) propose(g int, data []byte) (int, int, api.Errno) {
	if !w.here(g) {
		return 0, 0, 9
	}
	if len(data) > 65536 {
		return 0, 0, 6
	}
	r, at, sends, err := raft.Propose(w.member[g], data)
	if err != 0 {
		return 0, 0, err
	}
	w.another(g, r, sends)
	return at, r.Term, 0
}

// compact is 18.6.
func (w *worded) compact(g, upto int, snap []byte) api.Errno {
	if !w.here(g) {
		return 9
	}
	if upto > w.taken[g] || len(snap) > 65536 {
		return 2
	}
	r, err := raft.Compact(w.member[g], upto, snap)
	if err == 0 {
		w.another(g, r, nil)
	}
	return err
}

// flush is 18.7.
func (w *worded) flush() []api.Packet {
	for g := 0; g < w.groups; g++ {
		w.records[g].Flush()
		w.firm[g] = w.member[g].Commit
	}
	list := packet.Together(w.id, w.waiting)
	w.waiting = nil
	return list
}

// take is 18.8, place by place.
func (w *worded) take(g int) (Taken, api.Errno) {
	if !w.here(g) {
		return Taken{}, 9
	}
	var x Taken
	r := w.member[g]
	if w.taken[g] < r.Log.Base && w.firm[g] >= r.Log.Base {
		x.Base, x.Snap, w.taken[g] = r.Log.Base, r.Snap, r.Log.Base
	}
	for at := r.Log.Base + 1; at <= logs.Last(r.Log); at++ {
		if at > w.taken[g] && at <= w.firm[g] {
			x.Entries = append(x.Entries, r.Log.Entries[at-r.Log.Base-1])
			w.taken[g] = at
		}
	}
	return x, 0
}

func (w *worded) leads() []int {
	var list []int
	for g := 0; g < w.groups; g++ {
		if w.member[g].Role == 3 {
			list = append(list, g)
		}
	}
	return list
}

// pair is a host, and, where it is held against the words, what it is by them.
type pair struct {
	t *testing.T
	h *Host
	d *disk.Disk
	w *worded
}

func openPair(t *testing.T, id, n, groups int, d *disk.Disk, careful bool) *pair {
	t.Helper()
	had := files(d)
	h, err := Open(id, n, groups, d)
	p := &pair{t: t, h: h, d: d}
	if careful {
		var want api.Errno
		if p.w, want = wordedOpen(id, n, groups, had); err != want || (h == nil) != (err != 0) {
			t.Fatalf("Open(%d, %d, %d) of %v = %d, want %d", id, n, groups, had, err, want)
		}
	}
	if err != api.OK {
		if is := files(d); !reflect.DeepEqual(is, had) {
			t.Errorf("%v became %v", had, is)
		}
		return nil
	}
	p.same("Open")
	return p
}

// same fails the test, if the host, or its disk, is another one than by the words.
func (p *pair) same(what string) {
	p.t.Helper()
	if p.w == nil {
		return
	}
	for g := range p.w.groups {
		if is, want := member(p.t, p.h, g), ownRaft(p.w.member[g]); !reflect.DeepEqual(is, want) {
			p.t.Errorf("%s: group %d: %v, want %v", what, g, is, want)
		}
	}
	if is, want := own(p.h.Leads()), p.w.leads(); !reflect.DeepEqual(is, want) {
		p.t.Errorf("%s: leads %v, want %v", what, is, want)
	}
	if is, want := files(p.d), files(p.w.d); !reflect.DeepEqual(is, want) {
		p.t.Errorf("%s: files %v, want %v", what, is, want)
	}
}

func (p *pair) tick(draw int) {
	p.t.Helper()
	p.h.Tick(draw)
	if p.w != nil {
		p.w.tick(draw)
	}
	p.same("Tick")
}

func (p *pair) receive(x api.Packet) api.Errno {
	p.t.Helper()
	err := p.h.Receive(x)
	if p.w != nil {
		if want := p.w.receive(x); err != want {
			p.t.Errorf("Receive(%v) = %d, want %d", x, err, want)
		}
	}
	p.same("Receive")
	return err
}

func (p *pair) propose(g int, data []byte) (int, int, api.Errno) {
	p.t.Helper()
	at, term, err := p.h.Propose(g, data)
	if p.w != nil {
		if a, b, want := p.w.propose(g, data); at != a || term != b || err != want {
			p.t.Errorf("Propose(%d, %d bytes) = %d, %d, %d, want %d, %d, %d", g, len(data), at, term, err, a, b, want)
		}
	}
	p.same("Propose")
	return at, term, err
}

func (p *pair) compact(g, upto int, snap []byte) api.Errno {
	p.t.Helper()
	err := p.h.Compact(g, upto, snap)
	if p.w != nil {
		if want := p.w.compact(g, upto, snap); err != want {
			p.t.Errorf("Compact(%d, %d, %d bytes) = %d, want %d", g, upto, len(snap), err, want)
		}
	}
	p.same("Compact")
	return err
}

func (p *pair) flush() []api.Packet {
	p.t.Helper()
	list := p.h.Flush()
	if p.w != nil {
		if want := p.w.flush(); !reflect.DeepEqual(ownPackets(list), ownPackets(want)) {
			p.t.Errorf("Flush() = %v, want %v", list, want)
		}
	}
	p.same("Flush")
	return list
}

func (p *pair) take(g int) (Taken, api.Errno) {
	p.t.Helper()
	x, err := p.h.Take(g)
	if p.w != nil {
		if want, wantErr := p.w.take(g); err != wantErr || !reflect.DeepEqual(ownTaken(x), ownTaken(want)) {
			p.t.Errorf("Take(%d) = %v, %d, want %v, %d", g, x, err, want, wantErr)
		}
	}
	p.same("Take")
	return x, err
}
