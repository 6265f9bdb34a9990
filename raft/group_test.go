package raft

import (
	"bytes"
	"strconv"
	"testing"

	"funicular/api"
	"funicular/logs"
)

// 15.20: what follows, of groups whose messages come late, twice, out of order or never, and whose members fall and begin anew

type group struct {
	*chance
	t       *testing.T
	careful bool // each call is held against the words, too
	members []api.Raft
	net     []api.Msg
	cut     map[[2]int]bool // from whom to whom nothing comes
	leaders map[int]int     // who led in a term
	agreed  []api.Entry     // what somebody knew to be committed, place by place
	snaps   []string        // what a snapshot is, behind each of these
	made    int
	count   map[string]int
}

func newGroup(t *testing.T, seed, n int) *group {
	g := &group{chance: dice(uint64(seed)), t: t, cut: map[[2]int]bool{}, leaders: map[int]int{}, snaps: []string{""}, count: map[string]int{}}
	for id := 1; id <= n; id++ {
		r, err := New(id, n)
		if err != api.OK {
			t.Fatal(err)
		}
		g.members = append(g.members, r)
	}
	return g
}

// become is that a member is another one, and sends.
func (g *group) become(r api.Raft, sent []api.Msg) {
	was := g.members[r.Id-1]
	g.members[r.Id-1] = r
	for _, x := range sent {
		g.count["sent "+strconv.Itoa(x.Kind)]++
		if !g.cut[[2]int{x.From, x.To}] {
			g.net = append(g.net, x)
		}
	}
	g.wantLawful(was, r)
	g.wantOneLeader(was, r)
	g.wantCommitted(r)
	if r.Commit < was.Commit {
		g.t.Errorf("%d: what was committed goes back from %d to %d", r.Id, was.Commit, r.Commit)
	}
}

// wantLawful fails the test, if a member is one that may not be, or forgets its term or its vote.
func (g *group) wantLawful(was, r api.Raft) {
	g.t.Helper()
	switch {
	case logs.Check(r.Log) != api.OK, logs.LastTerm(r.Log) > r.Term, r.Commit < r.Log.Base, r.Commit > logs.Last(r.Log):
		g.t.Errorf("%v may not be", r)
	case r.Term < was.Term, r.Term == was.Term && was.Vote != 0 && r.Vote != was.Vote:
		g.t.Errorf("%v behind %v", r, was)
	}
}

// wantOneLeader fails the test, if another one led in that term, or if who leads lacks what was committed.
func (g *group) wantOneLeader(was, r api.Raft) {
	g.t.Helper()
	if r.Role != api.Leader || was.Role == api.Leader && was.Term == r.Term {
		return
	}
	if who, found := g.leaders[r.Term]; found && who != r.Id {
		g.t.Errorf("%d and %d lead in term %d", who, r.Id, r.Term)
	}
	g.leaders[r.Term] = r.Id
	for at := r.Log.Base + 1; at <= len(g.agreed); at++ {
		if list := logs.From(r.Log, at, 1); len(list) == 0 || !alike(list[0], g.agreed[at-1]) {
			g.t.Errorf("%d leads in term %d without what is committed at %d", r.Id, r.Term, at)
		}
	}
}

func alike(a, b api.Entry) bool { return a.Term == b.Term && bytes.Equal(a.Data, b.Data) }

// wantCommitted fails the test, if a member has something else committed than others have, or had.
func (g *group) wantCommitted(r api.Raft) {
	g.t.Helper()
	for at := r.Log.Base + 1; at <= r.Commit; at++ {
		e := r.Log.Entries[at-r.Log.Base-1]
		if at == len(g.agreed)+1 {
			g.agreed = append(g.agreed, e)
			g.snaps = append(g.snaps, strconv.Itoa(at)+": "+strconv.Itoa(len(g.snaps[at-1]))+" "+string(e.Data))
			g.count["committed"]++
		}
		if at > len(g.agreed) || !alike(e, g.agreed[at-1]) {
			g.t.Errorf("%d: another entry is committed at %d", r.Id, at)
			return
		}
	}
	if base := r.Log.Base; base > len(g.agreed) || base > 0 && r.Log.BaseTerm != g.agreed[base-1].Term || string(r.Snap) != g.snaps[base] {
		g.t.Errorf("%d: another snapshot at %d: %s", r.Id, base, r.Snap)
	}
}

func (g *group) tick(who int) {
	r, draw := g.members[who-1], g.next(1000)
	if g.careful {
		wantTickAsWorded(g.t, r, draw)
	}
	g.become(Tick(r, draw))
}

// deliver lets a message come.
func (g *group) deliver(x api.Msg) {
	r := g.members[x.To-1]
	if g.careful {
		wantReceiveAsWorded(g.t, r, x)
	}
	q, sent := Receive(r, x)
	if term, _ := logs.Term(q.Log, logs.Last(r.Log)); x.Kind == api.MAppend && term != logs.LastTerm(r.Log) {
		g.count["cut off"]++
	}
	if x.Kind == api.MSnap && q.Log.Base > r.Log.Base {
		g.count["snapshot taken"]++
	}
	if x.Kind == api.MAppendOk && !x.Ok && x.Term == r.Term && r.Role == api.Leader {
		g.count["did not fit"]++
	}
	g.become(q, sent)
}

// propose lets a member put an entry behind, if it leads: it is told from all others by its bytes.
func (g *group) propose(who int) int {
	g.made++
	r := g.members[who-1]
	q, at, sent, err := Propose(r, []byte("entry "+strconv.Itoa(g.made)))
	if (err == api.OK) != (r.Role == api.Leader) {
		g.t.Errorf("%d, of %v", err, r)
	}
	g.become(q, sent)
	return at
}

func (g *group) compact(who int) {
	r := g.members[who-1]
	if r.Commit == r.Log.Base {
		return
	}
	g.compactAt(who, r.Log.Base+1+g.next(r.Commit-r.Log.Base))
}

func (g *group) compactAt(who, upto int) {
	r := g.members[who-1]
	q, err := Compact(r, upto, []byte(g.snaps[upto]))
	if err != api.OK {
		g.t.Errorf("Compact(%v, %d): %d", r, upto, err)
	}
	g.become(q, nil)
	g.count["compacted"]++
}

// fall lets a member begin anew with what it must not forget.
func (g *group) fall(who int) {
	r := g.members[who-1]
	q, err := Restart(r.Id, r.N, r.Term, r.Vote, r.Log, r.Snap)
	if err != api.OK {
		g.t.Errorf("Restart of %v: %d", r, err)
	}
	g.members[who-1] = q
	g.wantLawful(r, q)
	g.count["fell"]++
}

// anew says anew between whom nothing comes.
func (g *group) anew() {
	g.cut = map[[2]int]bool{}
	if g.next(3) == 0 {
		return
	}
	side := map[int]int{}
	for _, r := range g.members {
		side[r.Id] = g.next(2)
	}
	for _, a := range g.members {
		for _, b := range g.members {
			g.cut[[2]int{a.Id, b.Id}] = side[a.Id] != side[b.Id] || g.next(8) == 0
		}
	}
}

// take is a message that is on its way; it is lost, or comes, or comes and stays.
func (g *group) take() {
	if len(g.net) == 0 {
		return
	}
	i := g.next(len(g.net))
	if g.next(3) > 0 {
		i = g.next(min(3, len(g.net))) // mostly one of the eldest
	}
	x, fate := g.net[i], g.next(12)
	if fate > 0 {
		g.net = append(own(g.net[:i]), g.net[i+1:]...)
	}
	if fate != 1 {
		g.deliver(x)
	}
}

func (g *group) storm(steps int) {
	for range steps {
		who := 1 + g.next(len(g.members))
		switch what := g.next(200); {
		case what < 80:
			g.tick(who)
		case what < 180:
			g.take()
		case what < 192:
			g.propose(who)
		case what < 195:
			g.compact(who)
		case what < 197:
			g.fall(who)
		case what < 198:
			g.anew()
		case len(g.net) > 40:
			g.net = g.net[20:]
		}
		if g.t.Failed() {
			return
		}
	}
}

// round is one of the calm: all clocks go on, and all that is sent comes.
func (g *group) round() {
	for _, r := range g.members {
		g.tick(r.Id)
	}
	for n := 0; len(g.net) > 0; n++ {
		x := g.net[0]
		g.net = g.net[1:]
		g.deliver(x)
		if n > 20000 {
			g.t.Fatal("there is no end of messages")
		}
	}
}

// agree: does one lead, do all follow it, and have all of its log committed?
func (g *group) agree() bool {
	lead := g.members[0].Lead
	if lead == 0 || g.members[lead-1].Role != api.Leader {
		return false
	}
	first := g.members[lead-1]
	for _, r := range g.members {
		if r.Lead != lead || r.Term != first.Term || r.Commit != logs.Last(first.Log) || logs.Last(r.Log) != r.Commit {
			return false
		}
	}
	return true
}

// calm fails the test, if all do not agree at last, or if what is proposed then is not committed by all.
func (g *group) calm() {
	g.t.Helper()
	g.cut = map[[2]int]bool{}
	rounds := 0
	for ; !g.agree(); rounds++ {
		if g.t.Failed() {
			return
		}
		if rounds > 400 {
			g.t.Fatalf("no agreement: %v", g.members)
		}
		g.round()
	}
	g.count["rounds"] += rounds
	at := g.propose(g.members[0].Lead)
	for range 5 {
		g.round()
	}
	if !g.agree() || g.members[0].Commit != at || len(g.agreed) != at {
		g.t.Errorf("%d is not committed by all: %v", at, g.members)
	}
}

func TestGroups(t *testing.T) {
	count, terms := map[string]int{}, 0
	for seed := range 600 {
		g := newGroup(t, seed, 1+seed%5)
		g.careful = seed < 15
		for range 1 + g.next(4) {
			g.storm(400 + g.next(1200))
			g.calm()
		}
		if t.Failed() {
			t.Fatalf("seed %d", seed)
		}
		for what, n := range g.count {
			count[what] += n
		}
		terms += len(g.leaders)
	}
	if terms < 2000 {
		t.Errorf("%d terms", terms)
	}
	least := map[string]int{"committed": 5000, "cut off": 100, "snapshot taken": 100, "did not fit": 200, "compacted": 1000, "fell": 1000,
		"sent 1": 1000, "sent 2": 1000, "sent 3": 1000, "sent 4": 1000, "sent 5": 1000, "sent 6": 1000, "sent 7": 200}
	for what, n := range least {
		if count[what] < n {
			t.Errorf("%s: %d", what, count[what])
		}
	}
}

// From the beginning on, without any storm.
func TestGroupsInTheCalm(t *testing.T) {
	for n := 1; n <= 7; n++ {
		for seed := range 20 {
			g := newGroup(t, seed, n)
			g.calm()
			for range 30 {
				g.propose(g.members[0].Lead)
			}
			for range 30 {
				g.round()
			}
			if !g.agree() || len(g.agreed) != 32 || len(g.leaders) != 1 {
				t.Fatalf("%d members: %v", n, g.members)
			}
		}
	}
}

// Who was away for long is sent a snapshot, and the entries behind; while it was away it asked, and troubles nobody.
func TestWhoWasAwayForLong(t *testing.T) {
	for seed := range 20 {
		g := newGroup(t, seed, 3)
		g.calm()
		lead := g.members[0].Lead
		away := 1 + lead%3
		for _, r := range g.members {
			g.cut[[2]int{r.Id, away}], g.cut[[2]int{away, r.Id}] = true, true
		}
		for range 40 {
			g.propose(lead)
			g.round()
		}
		g.compactAt(lead, g.members[lead-1].Commit)
		term := g.members[lead-1].Term
		if r := g.members[away-1]; r.Role != api.Asking || r.Term != term || r.Commit > 5 {
			t.Fatalf("%v was away", r)
		}
		g.calm()
		if r := g.members[away-1]; r.Lead != lead || r.Term != term || g.count["snapshot taken"] != 1 {
			t.Fatalf("%v is back, %d leads in %d", r, lead, term)
		}
	}
}

// An entry of an older term that a majority has may still be lost: it is committed along with one of the leader's own alone.
func TestEntriesOfOlderTerms(t *testing.T) {
	g := newGroup(t, 1, 5)
	restart := func(id, term, vote int, terms ...int) {
		var err api.Errno
		g.members[id-1], err = Restart(id, 5, term, vote, log(0, 0, terms...), nil)
		if err != api.OK {
			t.Fatal(err)
		}
	}
	// 1 led in 2, and fell; 5 led in 3, and fell; 1 is to lead in 4.
	restart(1, 3, 0, 1, 2)
	restart(2, 3, 5, 1, 2)
	restart(3, 3, 5, 1)
	restart(4, 3, 5, 1)
	restart(5, 3, 5, 1, 3)
	for g.members[0].Role != api.Leader {
		g.tick(1)
		for len(g.net) > 0 && g.members[0].Role != api.Leader {
			x := g.net[0]
			g.net = g.net[1:]
			if x.To != 5 {
				g.deliver(x)
			}
		}
	}
	// 3 is told what stands at 2, which a majority has then; what stands at 3 reaches nobody.
	g.net = nil
	r := g.members[0]
	if r.Term != 4 || logs.Last(r.Log) != 3 {
		t.Fatal(r)
	}
	for _, id := range []int{2, 3} {
		r, _ = Receive(r, api.Msg{Kind: api.MAppendOk, From: id, To: 1, Term: 4, At: 2, Ok: true})
	}
	if r.Commit != 0 {
		t.Fatalf("%v: 2 is not of its term", r)
	}
	// 3 has what is of its own term: all up to there is committed at once.
	for _, id := range []int{2, 3} {
		r, _ = Receive(r, api.Msg{Kind: api.MAppendOk, From: id, To: 1, Term: 4, At: 3, Ok: true})
	}
	if r.Commit != 3 {
		t.Fatal(r)
	}
}
