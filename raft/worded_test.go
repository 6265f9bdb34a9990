package raft

import (
	"strconv"
	"testing"

	"funicular/api"
	"funicular/logs"
)

// The promises once more, by another code: what is known of each member by its number, roles by their names, and a sentence a line.

type worded struct {
	id, n, term, vote, lead, commit, clock, wait int
	role                                         string
	log                                          api.Log
	snap                                         string
	granted                                      map[int]bool // nil: empty
	next, match                                  map[int]int  // nil: empty
	out                                          []api.Msg
}

var roleNames = []string{"Follower", "Asking", "Candidate", "Leader"}

// byNumber is a list's elements by the members' numbers.
func byNumber[T any](l []T) map[int]T {
	if len(l) == 0 {
		return nil
	}
	m := map[int]T{}
	for i, e := range l {
		m[i+1] = e
	}
	return m
}

func inOrder[T any](m map[int]T, n int) []T {
	var l []T
	for who := 1; who <= n && m != nil; who++ {
		l = append(l, m[who])
	}
	return l
}

func wordedOf(r api.Raft) *worded {
	return &worded{id: r.Id, n: r.N, term: r.Term, vote: r.Vote, lead: r.Lead, commit: r.Commit, clock: r.Clock, wait: r.Wait,
		role: roleNames[r.Role], log: ownLog(r.Log), snap: string(r.Snap),
		granted: byNumber(r.Granted), next: byNumber(r.Next), match: byNumber(r.Match)}
}

func (w *worded) member() api.Raft {
	role := 0
	for roleNames[role] != w.role {
		role++
	}
	return api.Raft{Id: w.id, N: w.n, Term: w.term, Vote: w.vote, Role: role, Lead: w.lead, Log: w.log, Commit: w.commit, Snap: []byte(w.snap),
		Granted: inOrder(w.granted, w.n), Next: inOrder(w.next, w.n), Match: inOrder(w.match, w.n), Clock: w.clock, Wait: w.wait}
}

// each does something for each of the others, rising.
func (w *worded) each(do func(who int)) {
	for who := range w.n + 1 {
		if who != 0 && who != w.id {
			do(who)
		}
	}
}

func (w *worded) all(number int) map[int]int {
	m := map[int]int{w.id: number}
	w.each(func(who int) { m[who] = number })
	return m
}

// follow is 15.3.
func (w *worded) follow(term, who int) {
	if w.term < term {
		w.vote = 0
		w.term = term
	}
	w.role = "Follower"
	w.lead = who
	w.granted, w.next, w.match = nil, nil, nil
}

// ask is 15.4.
func (w *worded) ask(draw int) {
	w.follow(w.term, 0)
	w.role = "Asking"
	w.clock = 0
	digits := strconv.FormatUint(uint64(draw), 10) // what 10 leaves is the last digit
	last, _ := strconv.Atoi(digits[len(digits)-1:])
	w.wait = 10 + last
	w.granted = map[int]bool{w.id: true}
	if w.n == 1 {
		w.stand()
	}
	if w.role == "Asking" {
		w.each(func(who int) { w.bid(who, api.MAsk, w.term+1) })
	}
}

// stand is 15.5.
func (w *worded) stand() {
	w.follow(w.term+1, 0)
	w.vote = w.id
	w.role = "Candidate"
	w.clock = 0
	w.granted = map[int]bool{w.id: true}
	if w.n == 1 {
		w.leads()
	}
	if w.role == "Candidate" {
		w.each(func(who int) { w.bid(who, api.MVote, w.term) })
	}
}

func (w *worded) bid(to, kind, term int) {
	w.out = append(w.out, api.Msg{Kind: kind, From: w.id, To: to, Term: term, At: w.last(), AtTerm: w.termAt(w.last())})
}

func (w *worded) last() int { return w.log.Base + len(w.log.Entries) }

func (w *worded) termAt(at int) int {
	for i, e := range w.log.Entries {
		if w.log.Base+1+i == at {
			return e.Term
		}
	}
	if at == w.log.Base {
		return w.log.BaseTerm
	}
	return 0
}

// leads is 15.6.
func (w *worded) leads() {
	w.follow(w.term, w.id)
	w.role = "Leader"
	w.clock = 0
	w.next = w.all(w.last() + 1)
	w.match = w.all(0)
	w.put("")
}

// put is 15.7.
func (w *worded) put(data string) {
	w.log.Entries = append(w.log.Entries, entry(w.term, data))
	w.match[w.id] = w.last()
	w.look()
	w.each(w.tell)
}

// look is 15.8: the greatest place that more than half have.
func (w *worded) look() {
	reached := 0
	for _, at := range w.match {
		have := 0
		for _, other := range w.match {
			if other >= at {
				have++
			}
		}
		if 2*have > w.n && at > reached {
			reached = at
		}
	}
	if reached > w.commit && w.termAt(reached) == w.term {
		w.commit = reached
	}
}

// tell is 15.9.
func (w *worded) tell(who int) {
	x := api.Msg{From: w.id, To: who, Term: w.term, Commit: w.commit}
	next := w.next[who]
	if !(next > w.log.Base) {
		x.Kind, x.At, x.AtTerm, x.Data = api.MSnap, w.log.Base, w.log.BaseTerm, []byte(w.snap)
	} else {
		x.Kind, x.At, x.AtTerm = api.MAppend, next-1, w.termAt(next-1)
		for at := next; at <= w.last() && at < next+8; at++ {
			x.Entries = append(x.Entries, w.log.Entries[at-w.log.Base-1])
		}
	}
	w.out = append(w.out, x)
}

// tick is 15.10.
func (w *worded) tick(draw int) {
	w.clock++
	if w.role == "Leader" {
		if w.clock >= 2 {
			w.clock = 0
			w.each(w.tell)
		}
	} else if w.clock >= w.wait {
		w.ask(draw)
	}
}

// receive is 15.11.
func (w *worded) receive(x api.Msg) {
	if x.To != w.id || x.From == w.id || x.From < 1 || x.From > w.n || x.Term < 0 || x.Term > most || x.At < 0 {
		return
	}
	if x.Term > w.term {
		if x.Kind == api.MAsk {
		} else if x.Kind == api.MAskOk && x.Ok {
		} else {
			w.follow(x.Term, 0)
		}
	}
	does := map[int]func(api.Msg){api.MAsk: w.onAsk, api.MVote: w.onVote, api.MAppend: w.onTold, api.MSnap: w.onTold,
		api.MAppendOk: w.onAppendOk, api.MAskOk: w.onGrant, api.MVoteOk: w.onGrant}
	if do := does[x.Kind]; do != nil {
		do(x)
	}
}

// reply answers a message.
func (w *worded) reply(x api.Msg, kind, term, at int, ok bool) {
	w.out = append(w.out, api.Msg{Kind: kind, From: w.id, To: x.From, Term: term, At: at, Ok: ok})
}

// older: is the log that a message tells of older than its own?
func (w *worded) older(x api.Msg) bool {
	term := w.termAt(w.last())
	if x.AtTerm != term {
		return x.AtTerm < term
	}
	return x.At < w.last()
}

// onAsk is 15.12.
func (w *worded) onAsk(x api.Msg) {
	switch {
	case x.Term <= w.term, w.older(x), w.role == "Leader", w.lead != 0 && w.clock < 10:
		w.reply(x, api.MAskOk, w.term, 0, false)
	default:
		w.reply(x, api.MAskOk, x.Term, 0, true)
	}
}

// onVote is 15.13.
func (w *worded) onVote(x api.Msg) {
	switch {
	case x.Term != w.term, w.role != "Follower", w.vote != 0 && w.vote != x.From, w.older(x):
		w.reply(x, api.MVoteOk, w.term, 0, false)
	default:
		w.vote = x.From
		w.clock = 0
		w.reply(x, api.MVoteOk, w.term, 0, true)
	}
}

// onTold is 15.14.
func (w *worded) onTold(x api.Msg) {
	if x.Term < w.term || w.role == "Leader" {
		w.reply(x, api.MAppendOk, w.term, 0, false)
		return
	}
	w.follow(x.Term, x.From)
	w.clock = 0
	if x.Kind == api.MSnap {
		if x.At > w.commit {
			w.log = logs.Reset(w.log, x.At, x.AtTerm)
			w.commit = x.At
			w.snap = string(x.Data)
		}
		w.reply(x, api.MAppendOk, w.term, w.commit, true)
		return
	}
	l, place, fits := logs.Put(w.log, x.At, x.AtTerm, x.Entries)
	if fits {
		w.log = l
		lesser := place
		if x.Commit < place {
			lesser = x.Commit
		}
		if lesser > w.commit {
			w.commit = lesser
		}
	}
	w.reply(x, api.MAppendOk, w.term, place, fits)
}

// onAppendOk is 15.15.
func (w *worded) onAppendOk(x api.Msg) {
	if x.Term < w.term || w.role != "Leader" {
		return
	}
	from := x.From
	if x.Ok {
		lesser := x.At
		if w.last() < lesser {
			lesser = w.last()
		}
		if lesser > w.match[from] {
			w.match[from] = lesser
		}
		if w.match[from]+1 > w.next[from] {
			w.next[from] = w.match[from] + 1
		}
		w.look()
		if w.next[from] <= w.last() {
			w.tell(from)
		}
		return
	}
	less := w.next[from] - 1
	if x.At < less && x.At+1 < less {
		less = x.At + 1
	}
	if less < w.match[from]+1 {
		less = w.match[from] + 1
	}
	w.next[from] = less
	w.tell(from)
}

// onGrant is 15.16.
func (w *worded) onGrant(x api.Msg) {
	role, term := "Asking", w.term+1
	if x.Kind == api.MVoteOk {
		role, term = "Candidate", w.term
	}
	if !x.Ok || w.role != role || x.Term != term {
		return
	}
	w.granted[x.From] = true
	count := 0
	for _, granted := range w.granted {
		if granted {
			count++
		}
	}
	if count <= w.n-count {
		return
	}
	if role == "Asking" {
		w.stand()
	} else {
		w.leads()
	}
}

func wantTickAsWorded(t *testing.T, r api.Raft, draw int) *worded {
	t.Helper()
	w := wordedOf(r)
	w.tick(draw)
	wantTick(t, r, draw, w.member(), w.out...)
	return w
}

func wantReceiveAsWorded(t *testing.T, r api.Raft, x api.Msg) *worded {
	t.Helper()
	w := wordedOf(r)
	w.receive(x)
	wantReceive(t, r, x, w.member(), w.out...)
	return w
}

func wantProposeAsWorded(t *testing.T, r api.Raft, data string) {
	t.Helper()
	w := wordedOf(r)
	w.put(data)
	wantPropose(t, r, data, w.member(), w.last(), w.out...)
}

// cases is members in each role, of two and of five, whose logs and what is committed are several.
func cases() []api.Raft {
	var list []api.Raft
	for _, n := range []int{2, 5} {
		for _, l := range []api.Log{{}, log(0, 0, 1, 3), log(2, 1, 2, 3, 3), log(4, 2)} {
			for commit := l.Base; commit <= logs.Last(l); commit += 2 {
				for role := range 4 {
					r := api.Raft{Id: 2, N: n, Term: 3, Role: role, Log: l, Commit: commit, Snap: []byte("snap"), Wait: 12}
					if l.Base == 0 {
						r.Snap = nil
					}
					list = append(list, ofRole(r)...)
				}
			}
		}
	}
	return list
}

// ofRole is a member with what its role asks for, of several kinds.
func ofRole(r api.Raft) []api.Raft {
	var list []api.Raft
	switch r.Role {
	case api.Follower:
		for _, vote := range []int{0, 1, 2} {
			for _, lead := range []int{0, 1} {
				for _, clock := range []int{9, 10, 11} {
					list = append(list, with(r, func(r *api.Raft) { r.Vote, r.Lead, r.Clock = vote, lead, clock }))
				}
			}
		}
	case api.Leader:
		last := logs.Last(r.Log)
		for _, next := range []int{max(1, r.Log.Base-1), r.Log.Base + 1, last, last + 1} {
			for _, match := range []int{0, min(next-1, last)} {
				list = append(list, with(r, func(r *api.Raft) {
					r.Vote, r.Lead, r.Clock, r.Next, r.Match = 2, 2, 1, same(r.N, max(next, 1)), same(r.N, max(match, 0))
					r.Match[1] = last
				}))
			}
		}
	default:
		for _, clock := range []int{0, 11} {
			list = append(list, with(r, func(r *api.Raft) { r.Vote, r.Clock, r.Granted = 2, clock, truths(r.N, 2) }))
		}
	}
	return list
}

func TestTickAsWorded(t *testing.T) {
	for _, r := range cases() {
		for _, draw := range []int{0, 7, -1} {
			wantTickAsWorded(t, r, draw)
		}
		if r.Role == api.Leader {
			wantProposeAsWorded(t, r, "new")
		} else {
			wantNoPropose(t, r, "new")
		}
	}
}

// TestReceiveAsWorded: each of the cases, and messages of all kinds, terms about its own, places about its log.
func TestReceiveAsWorded(t *testing.T) {
	n := 0
	for _, r := range cases() {
		for _, kind := range kinds()[:9] {
			for term := 2; term <= 5; term++ {
				for at := range 7 {
					for atTerm := 1 + at%2; atTerm <= 3; atTerm++ {
						x := api.Msg{Kind: kind, From: 1, To: 2, Term: term, At: at, AtTerm: atTerm, Commit: 3, Ok: (at+atTerm)%2 == 0, Data: []byte("sent")}
						if kind == api.MAppend && term > 2 {
							x.Entries = []api.Entry{entry(3, "a"), entry(term, "b")}[:(at+term)%3]
						}
						wantReceiveAsWorded(t, r, x)
						n++
					}
				}
			}
		}
		if t.Failed() {
			return
		}
	}
	if n < 50000 {
		t.Errorf("%d", n)
	}
}

// anyMember is one that could be, of a few to seven.
func (c *chance) anyMember() api.Raft {
	r, _ := New(1+c.next(2), 2+c.next(6))
	r.Term = 1 + c.next(6)
	if c.next(3) == 0 {
		r.Log.Base, r.Log.BaseTerm = 1+c.next(12), 1+c.next(r.Term)
		r.Snap = []byte("snap")
	}
	term := max(1, r.Log.BaseTerm)
	for range c.next(25) {
		if c.next(4) == 0 {
			term = min(r.Term, term+c.next(2))
		}
		r.Log.Entries = append(r.Log.Entries, entry(term, "stood "+strconv.Itoa(c.next(100))))
	}
	last := logs.Last(r.Log)
	r.Commit = r.Log.Base + c.next(len(r.Log.Entries)+1)
	r.Vote, r.Role, r.Clock, r.Wait = c.next(r.N+1), c.next(4), c.next(14), 10+c.next(10)
	switch r.Role {
	case api.Follower:
		r.Lead = c.next(r.N + 1)
	case api.Leader:
		r.Lead, r.Vote, r.Clock = r.Id, r.Id, c.next(2)
		for range r.N {
			match := c.next(last + 1)
			next := match + 1 + c.next(last-match+1)
			if c.next(3) == 0 { // far behind
				match, next = 0, 1+c.next(r.Log.Base+1)
			}
			r.Match, r.Next = append(r.Match, match), append(r.Next, next)
		}
		r.Match[r.Id-1] = last
	default:
		r.Granted = truths(r.N, r.Id)
		for i := range r.Granted {
			r.Granted[i] = r.Granted[i] || c.next(4) == 0
		}
	}
	return r
}

// anyMsg is a message to a member, about its term and its log.
func (c *chance) anyMsg(r api.Raft) api.Msg {
	last := logs.Last(r.Log)
	x := api.Msg{Kind: 1 + c.next(7), From: 1 + c.next(r.N), To: r.Id, Term: max(0, r.Term-1+c.next(4)), At: max(0, last-c.next(14)+c.next(4)), Commit: c.next(last + 3), Ok: c.next(3) > 0}
	x.AtTerm, _ = logs.Term(r.Log, x.At)
	if c.next(4) == 0 {
		x.AtTerm = c.next(r.Term + 2)
	}
	if x.Kind == api.MAppend {
		term := max(1, x.AtTerm, r.Log.BaseTerm)
		for range c.next(9) {
			if c.next(5) == 0 {
				term++
			}
			x.Entries = append(x.Entries, entry(term, "come "+strconv.Itoa(c.next(100))))
		}
	}
	if x.Kind == api.MSnap {
		x.AtTerm, x.Data = max(1, x.AtTerm), []byte("sent")
	}
	return x
}

func TestAnyAsWorded(t *testing.T) {
	turned, sent := map[int]int{}, map[int]int{}
	for seed := range 8000 {
		c := dice(uint64(seed))
		r := c.anyMember()
		for _, out := range wantTickAsWorded(t, r, c.next(1000)-500).out {
			sent[out.Kind]++
		}
		if r.Role == api.Leader {
			wantProposeAsWorded(t, r, "new")
		}
		for range 3 {
			x := c.anyMsg(r)
			w := wantReceiveAsWorded(t, r, x)
			if !equal(w.member(), r) {
				turned[x.Kind]++
			}
			for _, out := range w.out {
				sent[out.Kind]++
			}
		}
		if t.Failed() {
			t.Fatalf("seed %d: %v", seed, r)
		}
	}
	for kind := api.MAsk; kind <= api.MSnap; kind++ {
		if kind != api.MAsk && turned[kind] < 200 || sent[kind] < 200 { // MAsk turns nobody
			t.Errorf("kind %d turned %d members, and was sent %d times", kind, turned[kind], sent[kind])
		}
	}
}

// What a call answers hangs on its arguments, on no call ahead of it, nor on others at the same time.
func TestCallsDoNotHangOnOthers(t *testing.T) {
	list := cases()[:60]
	answers := func() []api.Raft {
		var all []api.Raft
		for _, r := range list {
			ticked, _ := Tick(r, 3)
			taken, sent := Receive(r, api.Msg{Kind: api.MAppend, From: 1, To: 2, Term: 4, At: 2, AtTerm: 1, Entries: []api.Entry{entry(4, "new")}})
			put, _, _, _ := Propose(r, []byte("put"))
			short, _ := Compact(r, r.Commit, []byte("short"))
			all = append(all, ticked, taken, put, short, Copy(r))
			for _, x := range sent {
				all = append(all, api.Raft{Id: x.To, Term: x.Term, Commit: x.At})
			}
		}
		return all
	}
	want := answers()
	done := make(chan []api.Raft)
	for range 8 {
		go func() {
			for range 10 {
				answers()
			}
			done <- answers()
		}()
	}
	for range 8 {
		for i, r := range <-done {
			if !equal(r, want[i]) {
				t.Errorf("%v, want %v", r, want[i])
			}
		}
	}
}
