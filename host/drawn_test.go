package host

import (
	"math"
	"math/rand"
	"strconv"
	"testing"

	"funicular/api"
	"funicular/disk"
	"funicular/wal"
)

// One host against the chapter's words, on drawn calls with drawn arguments, right and wrong.

type draws struct {
	*rand.Rand
	n, groups int
}

// group is mostly one that is here.
func (r *draws) group() int {
	if r.Intn(8) == 0 {
		return []int{-1, r.groups, r.groups + 1, parts, math.MinInt, math.MaxInt}[r.Intn(6)]
	}
	return r.Intn(r.groups)
}

// bytes is mostly a few.
func (r *draws) bytes() []byte {
	if r.Intn(40) == 0 {
		return make([]byte, full-1+r.Intn(3))
	}
	return []byte(strconv.Itoa(r.Intn(1000)))[:r.Intn(2)]
}

// near is a number about another one, and seldom a great one.
func (r *draws) near(n int) int {
	if r.Intn(60) == 0 {
		return []int{most, most + 1, -1, math.MaxInt}[r.Intn(4)]
	}
	return max(n-2+r.Intn(5), 0)
}

// msg is a message about where a member stands.
func (r *draws) msg(m api.Raft) api.Msg {
	last := m.Log.Base + len(m.Log.Entries)
	x := api.Msg{Kind: 1 + r.Intn(7), Group: r.Intn(r.groups), Term: r.near(m.Term + 1), At: r.near(last), AtTerm: r.near(m.Term), Commit: r.near(last), Ok: r.Intn(3) > 0}
	if r.Intn(4) == 0 {
		x.At, x.AtTerm = last, m.Log.BaseTerm
	}
	if len(m.Log.Entries) > 0 && r.Intn(2) > 0 {
		x.At, x.AtTerm = last, m.Log.Entries[len(m.Log.Entries)-1].Term
	}
	for range r.Intn(4) {
		x.Entries = append(x.Entries, api.Entry{Term: max(x.AtTerm, 1), Data: r.bytes()})
	}
	x.Data = r.bytes()
	switch r.Intn(40) {
	case 0:
		x.Kind = r.Intn(10)
	case 1:
		x.Group = r.group()
	case 2:
		x.Entries = make([]api.Entry, 10)
	}
	return x
}

// packet is mostly one to that host.
func (r *draws) packet(t *testing.T, h *Host, id int) api.Packet {
	from, to := 1+r.Intn(7), id
	if r.Intn(20) == 0 {
		to = r.Intn(9)
	}
	p := letter(from, to)
	for range r.Intn(5) {
		p.Msgs = append(p.Msgs, r.msg(member(t, h, r.Intn(r.groups))))
	}
	if r.Intn(30) == 0 {
		p.Msgs = append(p.Msgs, api.Msg{Kind: 1, From: from + 1})
	}
	return letter(from, to, p.Msgs...)
}

func (r *draws) act(p *pair, id int) {
	switch what := r.Intn(20); {
	case what < 5:
		p.tick([]int{r.Intn(26), -r.Intn(26), r.Int(), -r.Int(), math.MinInt}[r.Intn(5)])
	case what < 11:
		p.receive(r.packet(p.t, p.h, id))
	case what < 14:
		p.propose(r.group(), r.bytes())
	case what < 16:
		p.take(r.group())
	case what < 18:
		g := r.group()
		upto := r.near(2)
		if m, err := p.h.Raft(g); err == api.OK {
			upto = r.near(m.Commit - 1)
		}
		p.compact(g, upto, r.bytes())
	default:
		p.flush()
	}
}

func TestDrawnCalls(t *testing.T) {
	for seed := range 120 {
		r := &draws{Rand: rand.New(rand.NewSource(int64(seed))), n: 1 + seed%4, groups: 1 + seed/4%3}
		id, d := 1+r.Intn(r.n), disk.New()
		for range 6 {
			p := openPair(t, id, r.n, r.groups, d, true)
			if p == nil {
				t.Fatalf("seed %d: the disk is refused", seed)
			}
			for range 60 {
				r.act(p, id)
				if t.Failed() {
					t.Fatalf("seed %d", seed)
				}
			}
			d.Crash([]int{r.Intn(40), r.Intn(40), r.Intn(40), r.Intn(40)})
		}
	}
}

// Disks that are wrong in drawn ways are opened, or refused, as the words have it.
func TestDrawnDisks(t *testing.T) {
	refused, opened := map[api.Errno]int{}, 0
	for seed := range 400 {
		r := rand.New(rand.NewSource(int64(seed)))
		d := disk.New()
		for g := range 3 {
			keep(t, d, g, hard(1+r.Intn(3), r.Intn(4), log(0, 0, entry(1, "a"), entry(1, "b")), ""))
			if r.Intn(2) == 0 {
				keep(t, d, g, hard(4, r.Intn(4), log(3, 2, entry(2, "d")), "snap"))
			}
		}
		names := d.Names()
		for range 1 + r.Intn(2) {
			name := names[r.Intn(len(names))]
			b := d.Read(name)
			if r.Intn(5) == 0 {
				d.Replace(name, nil)
			} else if len(b) > 0 {
				b[r.Intn(len(b))] += byte(r.Intn(3))
				d.Replace(name, b[:len(b)-r.Intn(2)*r.Intn(len(b))])
			}
		}
		d.Append(wal.Segment(r.Intn(3), 1+r.Intn(2)), []byte(framed(1, 9, 1)))
		err, n := api.OK, 2+r.Intn(2)
		if p := openPair(t, 1+r.Intn(2), n, 1+r.Intn(3), d, true); p != nil {
			opened++
		} else if _, err = Open(1, n, 3, d); err == api.OK {
			t.Errorf("seed %d: it is refused of some groups, and opened of more", seed)
		}
		refused[err]++
	}
	if opened < 100 || refused[api.ErrSum] < 20 || refused[api.ErrState] < 5 || refused[api.ErrArg] < 20 {
		t.Errorf("opened %d, refused %v", opened, refused)
	}
}
