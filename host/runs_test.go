package host

import (
	"hash/fnv"
	"math/rand"
	"slices"
	"strconv"
	"testing"

	"funicular/api"
	"funicular/disk"
	"funicular/logs"
	"funicular/packet"
)

// 18.9: several hosts, whose packets are lost, late or doubled, and which fall at any place, and are opened again on what their disks keep

// duty is what one node must not forget of a group, since it sent it.
type duty struct {
	term  int         // the greatest term of which it spoke as its own
	votes map[int]int // for whom it voted in a term
	has   map[int]int // up to where it said, in a term, that its log is as the leader's
}

// node is one of a run: its host (nil, while it is down), its duties, and of each group what it took.
type node struct {
	id     int
	d      *disk.Disk
	p      *pair
	duties []duty
	at     []int    // up to where it took
	sum    []string // and what came of it
}

type run struct {
	*rand.Rand
	t       *testing.T
	careful bool
	groups  int
	nodes   []*node
	net     []api.Packet
	agreed  [][]string // of each group what comes of the first places, place by place, as who took it first has it
	leaders map[[2]int]int
	made    int
	count   map[string]int
}

func newRun(t *testing.T, seed int64, n, groups int, careful bool) *run {
	r := &run{Rand: rand.New(rand.NewSource(seed)), t: t, careful: careful, groups: groups, leaders: map[[2]int]int{}, count: map[string]int{}}
	for range groups {
		r.agreed = append(r.agreed, []string{""})
	}
	for id := 1; id <= n; id++ {
		x := &node{id: id, d: disk.New()}
		for range groups {
			x.duties = append(x.duties, duty{votes: map[int]int{}, has: map[int]int{}})
		}
		r.nodes = append(r.nodes, x)
	}
	for _, x := range r.nodes {
		r.open(x)
	}
	return r
}

// open opens a node's host, and fails the test, if it has forgotten what was sent.
func (r *run) open(x *node) {
	x.p = openPair(r.t, x.id, len(r.nodes), r.groups, x.d, r.careful)
	if x.p == nil {
		r.t.Fatalf("node %d is not opened", x.id)
	}
	x.at, x.sum = make([]int, r.groups), make([]string, r.groups)
	for g, duty := range x.duties {
		m := member(r.t, x.p.h, g)
		if vote := duty.votes[m.Term]; m.Term < duty.term || vote != 0 && m.Vote != vote || logs.Last(m.Log) < duty.has[m.Term] {
			r.t.Errorf("node %d, group %d: %v, though it sent %v", x.id, g, m, duty)
		}
		r.take(x, g)
	}
}

// chain is what comes of an entry behind others.
func chain(sum string, e api.Entry) string {
	hash := fnv.New64a()
	hash.Write([]byte(sum + " " + strconv.Itoa(e.Term) + " "))
	hash.Write(e.Data)
	return strconv.FormatUint(hash.Sum64(), 36)
}

// take lets a node take of a group, and fails the test, if that is something else than what others took.
func (r *run) take(x *node, g int) {
	r.t.Helper()
	got, err := x.p.take(g)
	if err != api.OK {
		r.t.Errorf("Take(%d) = %d", g, err)
	}
	all := &r.agreed[g]
	if got.Base > 0 {
		if got.Base <= x.at[g] || got.Base >= len(*all) || string(got.Snap) != (*all)[got.Base] {
			r.t.Errorf("node %d, group %d: at %d a snapshot of %d, %s", x.id, g, x.at[g], got.Base, got.Snap)
			return
		}
		x.at[g], x.sum[g] = got.Base, string(got.Snap)
		r.count["snapshot taken"]++
	}
	for _, e := range got.Entries {
		x.at[g], x.sum[g] = x.at[g]+1, chain(x.sum[g], e)
		if x.at[g] == len(*all) {
			*all = append(*all, x.sum[g])
			r.count["agreed"]++
		}
		if x.at[g] >= len(*all) || (*all)[x.at[g]] != x.sum[g] {
			r.t.Errorf("node %d, group %d: another entry at %d: %v", x.id, g, x.at[g], e)
			return
		}
	}
}

// send notes what a node's packets say, which it must not forget, and has them be on their way.
func (r *run) send(x *node, list []api.Packet) {
	r.t.Helper()
	for _, p := range list {
		b, err := packet.Put(p)
		if err != api.OK {
			r.t.Errorf("%v may not be: %d", p, err)
			continue
		}
		for _, m := range p.Msgs {
			r.note(x, m)
		}
		p, _ = packet.Read(b)
		r.net = append(r.net, p)
	}
}

func (r *run) note(x *node, m api.Msg) {
	r.t.Helper()
	r.count["sent "+strconv.Itoa(m.Kind)]++
	duty := &x.duties[m.Group]
	if m.Kind == api.MAsk || m.Kind == api.MAskOk && m.Ok { // which speak of a term that nobody has begun yet
		return
	}
	duty.term = max(duty.term, m.Term)
	vote, has := 0, 0
	switch {
	case m.Kind == api.MVote:
		vote = x.id
	case m.Kind == api.MVoteOk && m.Ok:
		vote = m.To
	case m.Kind == api.MAppend:
		has = m.At + len(m.Entries)
	case m.Kind == api.MSnap || m.Kind == api.MAppendOk && m.Ok:
		has = m.At
	}
	duty.has[m.Term] = max(duty.has[m.Term], has)
	if vote != 0 {
		if was := duty.votes[m.Term]; was != 0 && was != vote {
			r.t.Errorf("node %d, group %d: in term %d it voted for %d and %d", x.id, m.Group, m.Term, was, vote)
		}
		duty.votes[m.Term] = vote
	}
}

// up is a node that is up; nil, if none is.
func (r *run) up() *node {
	var list []*node
	for _, x := range r.nodes {
		if x.p != nil {
			list = append(list, x)
		}
	}
	if len(list) == 0 {
		return nil
	}
	return list[r.Intn(len(list))]
}

// fall lets a node fall; its disk keeps what was synced, and of each file a beginning of the rest.
func (r *run) fall(x *node) {
	var keep []int
	for _, name := range x.d.Names() {
		loose := x.d.Loose(name)
		if loose > 0 {
			r.count["fell unsynced"]++
		}
		keep = append(keep, []int{0, loose, r.Intn(loose + 1), r.Intn(loose + 1)}[r.Intn(4)])
	}
	x.d.Crash(keep)
	x.p = nil
	r.count["fell"]++
}

// propose proposes an entry in a group that a node leads.
func (r *run) propose(x *node, g int) {
	r.made++
	at, term, err := x.p.propose(g, []byte("entry "+strconv.Itoa(r.made)+string(make([]byte, r.Intn(60)))))
	m := member(r.t, x.p.h, g)
	if (err == api.OK) != (m.Role == api.Leader) || err == api.OK && (at != logs.Last(m.Log) || term != m.Term) {
		r.t.Errorf("Propose = %d, %d, %d, of %v", at, term, err, m)
	}
}

func (r *run) compact(x *node, g int) {
	m := member(r.t, x.p.h, g)
	if x.at[g] <= m.Log.Base {
		return
	}
	upto := m.Log.Base + 1 + r.Intn(x.at[g]-m.Log.Base)
	if err := x.p.compact(g, upto, []byte(r.agreed[g][upto])); err != api.OK {
		r.t.Errorf("Compact(%d, %d) of %v = %d", g, upto, m, err)
	}
	r.count["compacted"]++
}

// deliver lets a packet come, if the node is up.
func (r *run) deliver(p api.Packet) {
	if x := r.nodes[p.To-1]; x.p != nil {
		if err := x.p.receive(p); err != api.OK {
			r.t.Errorf("Receive(%v) = %d", p, err)
		}
	}
}

// next is a packet that is on its way: it is lost, or comes, or comes and stays.
func (r *run) next() {
	if len(r.net) == 0 {
		return
	}
	i := r.Intn(len(r.net))
	if r.Intn(3) > 0 {
		i = r.Intn(min(4, len(r.net))) // mostly one of the eldest
	}
	p, fate := r.net[i], r.Intn(16)
	if fate > 0 {
		r.net = slices.Delete(r.net, i, i+1)
	}
	if fate != 1 {
		r.deliver(p)
	}
}

func (r *run) storm(steps int) {
	for range steps {
		x, g := r.up(), r.Intn(r.groups)
		if x == nil || r.Intn(60) == 0 {
			if x = r.nodes[r.Intn(len(r.nodes))]; x.p == nil {
				r.open(x)
			}
		}
		switch what := r.Intn(200); {
		case what < 40:
			x.p.tick(r.Int())
		case what < 120:
			r.next()
		case what < 160:
			r.send(x, x.p.flush())
		case what < 180:
			r.take(x, g)
		case what < 193:
			r.propose(x, g)
		case what < 195:
			r.compact(x, g)
		case what < 198:
			r.fall(x)
		case len(r.net) > 30:
			r.net = r.net[15:]
		}
		r.wantOneLeader()
		if r.t.Failed() {
			return
		}
	}
}

// wantOneLeader fails the test, if two lead a group in one term.
func (r *run) wantOneLeader() {
	r.t.Helper()
	for _, x := range r.nodes {
		if x.p == nil {
			continue
		}
		for _, g := range x.p.h.Leads() {
			in := [2]int{g, member(r.t, x.p.h, g).Term}
			if who, found := r.leaders[in]; found && who != x.id {
				r.t.Errorf("%d and %d lead group %d in term %d", who, x.id, in[0], in[1])
			}
			r.leaders[in] = x.id
		}
	}
}

// round is one of the calm: all clocks go on, all is synced, and all that is sent comes.
func (r *run) round() {
	for _, x := range r.nodes {
		x.p.tick(r.Int())
	}
	for range 4 {
		for _, x := range r.nodes {
			r.send(x, x.p.flush())
		}
		for _, p := range r.net {
			r.deliver(p)
		}
		r.net = nil
	}
	r.wantOneLeader()
	for _, x := range r.nodes {
		for g := range r.groups {
			r.take(x, g)
		}
	}
}

// agree: is each group led by one, whose whole log all have taken?
func (r *run) agree() bool {
	for g := range r.groups {
		lead := 0
		for _, x := range r.nodes {
			if slices.Contains(x.p.h.Leads(), g) {
				lead = x.id
			}
		}
		if lead == 0 {
			return false
		}
		first := member(r.t, r.nodes[lead-1].p.h, g)
		for _, x := range r.nodes {
			m := member(r.t, x.p.h, g)
			if m.Lead != lead || m.Term != first.Term || x.at[g] != logs.Last(first.Log) || x.at[g] != len(r.agreed[g])-1 {
				return false
			}
		}
	}
	return true
}

// calm fails the test, if all do not agree at last, or if what is proposed then is not taken by all.
func (r *run) calm() {
	r.t.Helper()
	for _, x := range r.nodes {
		if x.p == nil {
			r.open(x)
		}
	}
	for rounds := 0; !r.agree(); rounds++ {
		if r.t.Failed() {
			return
		}
		if rounds > 300 {
			r.t.Fatal("no agreement")
		}
		r.round()
	}
	for _, x := range r.nodes {
		for _, g := range x.p.h.Leads() {
			r.propose(x, g)
		}
	}
	was := r.count["agreed"]
	for range 4 {
		r.round()
	}
	if !r.agree() || r.count["agreed"] != was+r.groups {
		r.t.Error("what is proposed in the calm is not taken by all")
	}
}

func TestRuns(t *testing.T) {
	count := map[string]int{}
	for seed := range 220 {
		n, groups := 1+seed%5, 1+seed/5%4
		r := newRun(t, int64(seed), n, groups, seed < 40)
		for range 1 + r.Intn(3) {
			r.storm(400 + r.Intn(1000))
			if t.Failed() {
				t.Fatalf("seed %d", seed)
			}
			r.calm()
		}
		if t.Failed() {
			t.Fatalf("seed %d", seed)
		}
		for what, n := range r.count {
			count[what] += n
		}
		count["terms"] += len(r.leaders)
	}
	least := map[string]int{"agreed": 5000, "snapshot taken": 300, "compacted": 500, "fell": 1000, "fell unsynced": 500, "terms": 1000,
		"sent 1": 1000, "sent 2": 1000, "sent 3": 1000, "sent 4": 1000, "sent 5": 1000, "sent 6": 1000, "sent 7": 100}
	for what, n := range least {
		if count[what] < n {
			t.Errorf("%s: %d", what, count[what])
		}
	}
}

// Nodes that all fall at once lose nothing that was taken anywhere.
func TestRunsInWhichAllFall(t *testing.T) {
	for seed := range 40 {
		r := newRun(t, int64(1000+seed), 3, 2, false)
		for range 4 {
			r.storm(500)
			if t.Failed() {
				t.Fatalf("seed %d", seed)
			}
			for _, x := range r.nodes {
				if x.p != nil {
					r.fall(x)
				}
			}
			r.calm()
		}
		if t.Failed() {
			t.Fatalf("seed %d", seed)
		}
	}
}

// As many nodes and groups as there may be.
func TestRunOfManyGroups(t *testing.T) {
	r := newRun(t, 1, 7, parts, false)
	r.calm()
	r.fall(r.nodes[0])
	r.fall(r.nodes[3])
	r.calm()
}
