package raft

import (
	"math"
	"strconv"
	"testing"

	"funicular/api"
	"funicular/logs"
)

// The chapter's example

func TestExample(t *testing.T) {
	r, err := New(1, 1)
	if err != api.OK {
		t.Fatal(err)
	}
	for i := range 11 {
		if r.Role != api.Follower || r.Clock != i {
			t.Fatalf("%d: %v", i, r)
		}
		r, _ = Tick(r, 3)
	}
	want := api.Raft{Id: 1, N: 1, Term: 1, Vote: 1, Role: api.Leader, Lead: 1, Commit: 1, Wait: 13,
		Log: api.Log{Entries: []api.Entry{{Term: 1}}}, Next: []int{1}, Match: []int{1}}
	wantMember(t, "it leads", r, want, nil, nil)
	for i := range 5 {
		want.Log, want.Match, want.Commit = behind(want.Log, entry(1, "paid")), []int{i + 2}, i+2
		wantPropose(t, r, "paid", want, i+2)
		r, _, _, _ = Propose(r, []byte("paid"))
	}
}

// 15.1: New

func TestNew(t *testing.T) {
	for n := 1; n <= 7; n++ {
		for id := 1; id <= n; id++ {
			r, err := New(id, n)
			wantMember(t, "New", r, api.Raft{Id: id, N: n, Wait: 10 + id}, nil, nil)
			if err != api.OK {
				t.Errorf("New(%d, %d): %d", id, n, err)
			}
		}
	}
}

// strangers is what is no member of so many: its number, and how many there are.
func strangers() [][2]int {
	list := [][2]int{{0, 0}, {1, 0}, {1, 8}, {8, 8}, {1, -1}, {-1, -1}, {1, math.MaxInt}, {1, math.MinInt}, {math.MinInt, math.MinInt}, {math.MaxInt, math.MaxInt}}
	for n := 1; n <= 7; n++ {
		list = append(list, [2]int{0, n}, [2]int{n + 1, n}, [2]int{-1, n}, [2]int{math.MaxInt, n}, [2]int{math.MinInt, n})
	}
	return list
}

func TestNewOfStrangers(t *testing.T) {
	for _, s := range strangers() {
		r, err := New(s[0], s[1])
		wantMember(t, "New", r, api.Raft{}, nil, nil)
		if err != api.ErrRange {
			t.Errorf("New(%d, %d): %d", s[0], s[1], err)
		}
	}
}

// 15.2: Restart

func wantRestart(t *testing.T, id, n, term, vote int, l api.Log, snap string) {
	t.Helper()
	l, bytes := roomyLog(l), roomy([]byte(snap), 77)
	defer unchanged(t, l, wholeLog)()
	defer unchanged(t, bytes, wholeBytes)()
	want := api.Raft{Id: id, N: n, Term: term, Vote: vote, Log: l, Snap: bytes, Commit: l.Base, Wait: 10 + id}
	r, err := Restart(id, n, term, vote, l, bytes)
	wantMember(t, "Restart", r, want, nil, nil)
	if err != api.OK {
		t.Errorf("Restart(%d, %d, %d, %d, %v): %d", id, n, term, vote, l, err)
	}
	wantNew(t, "Restart", memberSpans(r), entrySpans(l.Entries), spans(bytes))
}

func wantNoRestart(t *testing.T, id, n, term, vote int, l api.Log, want api.Errno) {
	t.Helper()
	r, err := Restart(id, n, term, vote, l, []byte("snap"))
	wantMember(t, "Restart", r, api.Raft{}, nil, nil)
	if err != want {
		t.Errorf("Restart(%d, %d, %d, %d, %v): %d, want %d", id, n, term, vote, l, err, want)
	}
}

func TestRestart(t *testing.T) {
	wantRestart(t, 1, 1, 0, 0, api.Log{}, "")
	wantRestart(t, 2, 3, 4, 0, follows().Log, "snap")
	wantRestart(t, 2, 3, 4, 2, follows().Log, "snap")
	wantRestart(t, 7, 7, 4, 7, log(0, 0, 1, 1, 4), "")
	wantRestart(t, 1, 7, 0, 7, api.Log{}, "")
	wantRestart(t, 1, 2, 5, 1, log(0, 0, 5), "") // a last entry of just that term
	wantRestart(t, 1, 2, 6, 1, log(0, 0, 5), "")
	wantRestart(t, 3, 3, most, 3, log(most, most), "all")
	wantRestart(t, 3, 3, most, 0, log(most, 1, 2, most), "all")
	wantRestart(t, 1, 3, 5, 0, log(9, 5), "all")
	wantRestart(t, 1, 3, 5, 0, log(9, 5), "")
	wantRestart(t, 1, 3, 5, 0, log(0, 0), "without a place")
}

func TestRestartOfStrangers(t *testing.T) {
	for _, s := range strangers() {
		wantNoRestart(t, s[0], s[1], 0, 0, api.Log{}, api.ErrRange)
		wantNoRestart(t, s[0], s[1], -1, -1, log(1, 0, 0), api.ErrRange) // the first error
	}
}

func TestRestartOfWhatMayNotBe(t *testing.T) {
	l := follows().Log
	for _, term := range []int{-1, most + 1, math.MinInt, math.MaxInt} {
		wantNoRestart(t, 1, 3, term, 0, api.Log{}, api.ErrArg)
	}
	for _, vote := range []int{-1, 4, 7, math.MinInt, math.MaxInt} {
		wantNoRestart(t, 1, 3, 4, vote, l, api.ErrArg)
	}
	for _, l := range []api.Log{log(1, 0), log(0, 1), log(-1, -1), log(0, 0, 0), log(0, 0, 2, 1), log(3, 2, 1), log(most+1, 1), log(0, 0, -1)} {
		wantNoRestart(t, 1, 3, most, 0, l, api.ErrArg)
	}
	wantNoRestart(t, 1, 3, 3, 0, l, api.ErrArg) // its last entry is of term 4
	wantNoRestart(t, 1, 3, 0, 0, log(0, 0, 1), api.ErrArg)
	wantNoRestart(t, 1, 3, 4, 0, log(9, 5), api.ErrArg) // the entry at Base stood there
	wantNoRestart(t, 1, 3, most, 0, log(0, 0, most+1), api.ErrArg)
}

// 15.4: to ask

// bids is what 15.4 and 15.5 send to each of the others.
func bids(r api.Raft, kind, term int) []api.Msg {
	var list []api.Msg
	for to := 1; to <= r.N; to++ {
		if to != r.Id {
			list = append(list, api.Msg{Kind: kind, From: r.Id, To: to, Term: term, At: logs.Last(r.Log), AtTerm: logs.LastTerm(r.Log)})
		}
	}
	return list
}

// asked is what a member of several is when it begins to ask.
func asked(r api.Raft, wait int) api.Raft {
	return with(followed(r, r.Term, 0), func(r *api.Raft) {
		r.Role, r.Clock, r.Wait, r.Granted = api.Asking, 0, wait, truths(r.N, r.Id)
	})
}

func TestTickAsks(t *testing.T) {
	for name, r := range roles() {
		if name == "leads" {
			continue
		}
		for _, clock := range []int{0, 11, 12} {
			r.Clock = clock
			wantTick(t, r, 3, with(r, func(r *api.Raft) { r.Clock++ }))
		}
		for _, clock := range []int{13, 14, 100} {
			r.Clock = clock
			wantTick(t, r, 3, asked(r, 13), bids(r, api.MAsk, 5)...)
		}
	}
}

// TestTickAsksOnce: those who granted are forgotten, the vote is not.
func TestTickAsksOnce(t *testing.T) {
	r := with(stands(), func(r *api.Raft) { r.N, r.Granted, r.Clock = 5, truths(5, 2, 3), 13 })
	wantTick(t, r, 0, asked(r, 10), bids(r, api.MAsk, 5)...)
	if asked(r, 10).Vote != 2 {
		t.Error("the vote")
	}
	r.Role = api.Asking
	wantTick(t, r, 0, asked(r, 10), bids(r, api.MAsk, 5)...)
}

func TestTickDraws(t *testing.T) {
	draws := map[int]int{0: 10, 1: 11, 9: 19, 10: 10, 19: 19, 123: 13, -1: 15, -6: 10, -7: 19, -10: 16, math.MaxInt: 17, math.MinInt: 18, math.MinInt + 1: 19, math.MinInt + 2: 10}
	for draw, wait := range draws {
		r := with(follows(), func(r *api.Raft) { r.Clock = 13 })
		wantTick(t, r, draw, asked(r, wait), bids(r, api.MAsk, 5)...)
		wantTick(t, leads(), draw, with(leads(), func(r *api.Raft) { r.Clock = 1 }))
	}
}

func TestTickOfNew(t *testing.T) {
	for n := 2; n <= 7; n++ {
		for id := 1; id <= n; id++ {
			r, _ := New(id, n)
			for i := range 9 + id {
				q, sent := Tick(r, 4)
				wantMember(t, "Tick", q, with(r, func(r *api.Raft) { r.Clock = i + 1 }), sent, nil)
				r = q
			}
			wantTick(t, r, 4, asked(r, 14), bids(r, api.MAsk, 1)...)
		}
	}
}

// At the greatest term the next one is asked for, which nobody looks at.
func TestTickAtTheGreatestTerm(t *testing.T) {
	r := with(follows(), func(r *api.Raft) { r.Term, r.Clock = most, 13 })
	sent := bids(r, api.MAsk, most+1)
	wantTick(t, r, 0, asked(r, 10), sent...)
	other := with(follows(), func(r *api.Raft) { r.Id, r.Lead = 1, 0 })
	wantReceive(t, other, sent[0], other)
	// One alone has nobody to ask: it leads in that term.
	r, _ = Restart(1, 1, most, 1, log(0, 0, most), nil)
	r.Clock = 10
	wantTick(t, r, 0, api.Raft{Id: 1, N: 1, Term: most + 1, Vote: 1, Role: api.Leader, Lead: 1, Log: behind(r.Log, entry(most+1, "")),
		Commit: 2, Next: []int{2}, Match: []int{2}, Wait: 10})
}

// 15.5, 15.6 of one alone: it asks, stands and leads at once

func TestTickOfOneAlone(t *testing.T) {
	l := log(3, 1, 1, 2)
	r, _ := Restart(1, 1, 6, 0, l, []byte("snap"))
	r.Clock = 9
	wantTick(t, r, 5, with(r, func(r *api.Raft) { r.Clock = 10 }))
	r.Clock = 10
	want := api.Raft{Id: 1, N: 1, Term: 7, Vote: 1, Role: api.Leader, Lead: 1, Log: behind(l, entry(7, "")), Commit: 6,
		Snap: []byte("snap"), Next: []int{6}, Match: []int{6}, Wait: 15}
	for role := range 3 {
		r.Role = role
		wantTick(t, r, 5, want)
	}
	// It tells nobody.
	wantTick(t, want, 1, with(want, func(r *api.Raft) { r.Clock = 1 }))
	want.Clock = 1
	wantTick(t, want, 1, with(want, func(r *api.Raft) { r.Clock = 0 }))
}

// 15.9, 15.10: of a Leader

func TestTickOfALeader(t *testing.T) {
	r := leads()
	wantTick(t, r, 0, with(r, func(r *api.Raft) { r.Clock = 1 }))
	told := []api.Msg{
		{Kind: api.MAppend, From: 2, To: 1, Term: 4, At: 5, AtTerm: 4, Commit: 3},
		{Kind: api.MAppend, From: 2, To: 3, Term: 4, At: 3, AtTerm: 2, Commit: 3, Entries: r.Log.Entries[2:]},
	}
	for _, clock := range []int{1, 2, 50} {
		r.Clock = clock
		wantTick(t, r, 0, leads(), told...)
	}
}

func TestToldBySnapshot(t *testing.T) {
	snap := func(to int) api.Msg {
		return api.Msg{Kind: api.MSnap, From: 2, To: to, Term: 4, At: 1, AtTerm: 1, Commit: 3, Data: []byte("snap")}
	}
	r := with(leads(), func(r *api.Raft) { r.Next, r.Clock = []int{1, 5, 0}, 1 })
	wantTick(t, r, 0, with(r, func(r *api.Raft) { r.Clock = 0 }), snap(1), snap(3))
	// Next above Base: what stood at Base is still known.
	r.Next = []int{2, 5, 1}
	wantTick(t, r, 0, with(r, func(r *api.Raft) { r.Clock = 0 }),
		api.Msg{Kind: api.MAppend, From: 2, To: 1, Term: 4, At: 1, AtTerm: 1, Commit: 3, Entries: r.Log.Entries}, snap(3))
	// A log from the beginning on: no snapshot.
	r = with(leads(), func(r *api.Raft) {
		r.Log, r.Snap, r.Next, r.Match, r.Clock = log(0, 0, 1, 4), nil, []int{1, 1, 2}, []int{0, 2, 0}, 1
		r.Commit = 0
	})
	wantTick(t, r, 0, with(r, func(r *api.Raft) { r.Clock = 0 }),
		api.Msg{Kind: api.MAppend, From: 2, To: 1, Term: 4, Entries: r.Log.Entries},
		api.Msg{Kind: api.MAppend, From: 2, To: 3, Term: 4, At: 1, AtTerm: 1, Entries: r.Log.Entries[1:]})
}

func TestToldMaxBatch(t *testing.T) {
	for n := 6; n < 12; n++ {
		terms := same(n, 4)
		r := with(leads(), func(r *api.Raft) {
			r.Log, r.Next, r.Match, r.Clock = log(7, 3, terms...), []int{8, 8, 9}, []int{0, 7 + n, 0}, 1
		})
		wantTick(t, r, 0, with(r, func(r *api.Raft) { r.Clock = 0 }),
			api.Msg{Kind: api.MAppend, From: 2, To: 1, Term: 4, At: 7, AtTerm: 3, Commit: 3, Entries: r.Log.Entries[:min(n, 8)]},
			api.Msg{Kind: api.MAppend, From: 2, To: 3, Term: 4, At: 8, AtTerm: 4, Commit: 3, Entries: r.Log.Entries[1:min(n, 9)]})
	}
}

func TestToldToAllRising(t *testing.T) {
	for id := 1; id <= 7; id++ {
		r := with(leads(), func(r *api.Raft) {
			r.Id, r.N, r.Lead, r.Vote, r.Clock, r.Next, r.Match = id, 7, id, id, 1, same(7, 6), same(7, 0)
		})
		var told []api.Msg
		for to := 1; to <= 7; to++ {
			if to != id {
				told = append(told, api.Msg{Kind: api.MAppend, From: id, To: to, Term: 4, At: 5, AtTerm: 4, Commit: 3})
			}
		}
		wantTick(t, r, 0, with(r, func(r *api.Raft) { r.Clock = 0 }), told...)
	}
}

// 15.7, 15.17: Propose

func TestPropose(t *testing.T) {
	r := leads()
	want := with(r, func(r *api.Raft) { r.Log, r.Match = behind(r.Log, entry(4, "paid")), []int{3, 6, 0} })
	told := []api.Msg{
		{Kind: api.MAppend, From: 2, To: 1, Term: 4, At: 5, AtTerm: 4, Commit: 3, Entries: want.Log.Entries[4:]},
		{Kind: api.MAppend, From: 2, To: 3, Term: 4, At: 3, AtTerm: 2, Commit: 3, Entries: want.Log.Entries[2:]},
	}
	wantPropose(t, r, "paid", want, 6, told...)
	want.Log.Entries[4].Data = nil
	told[0].Entries, told[1].Entries = want.Log.Entries[4:], want.Log.Entries[2:]
	wantPropose(t, r, "", want, 6, told...)
}

// What is put behind is committed along with what the others have: it is looked at ahead of telling.
func TestProposeCommits(t *testing.T) {
	r := with(leads(), func(r *api.Raft) { r.Match, r.Next = []int{5, 4, 0}, []int{6, 5, 6} })
	want := with(r, func(r *api.Raft) { r.Log, r.Match, r.Commit = behind(r.Log, entry(4, "x")), []int{5, 6, 0}, 5 })
	wantPropose(t, r, "x", want, 6,
		api.Msg{Kind: api.MAppend, From: 2, To: 1, Term: 4, At: 5, AtTerm: 4, Commit: 5, Entries: want.Log.Entries[4:]},
		api.Msg{Kind: api.MAppend, From: 2, To: 3, Term: 4, At: 5, AtTerm: 4, Commit: 5, Entries: want.Log.Entries[4:]})
}

func TestProposeToWhoDoesNotLead(t *testing.T) {
	for name, r := range roles() {
		if name != "leads" {
			wantNoPropose(t, r, "paid")
			wantNoPropose(t, r, "")
		}
	}
	r, _ := New(1, 1)
	wantNoPropose(t, r, "paid")
}

// 15.18: Compact

func TestCompact(t *testing.T) {
	for _, r := range roles() {
		r.Commit = 4
		for upto := 2; upto <= 4; upto++ {
			wantCompact(t, r, upto, "new", with(r, func(r *api.Raft) {
				r.Log = api.Log{Base: upto, BaseTerm: []int{2, 2, 4}[upto-2], Entries: r.Log.Entries[upto-1:]}
				r.Snap = []byte("new")
			}))
		}
		for _, upto := range []int{1, 0, -1, 5, 6, 100, math.MinInt, math.MaxInt} {
			wantNoCompact(t, r, upto)
		}
	}
}

func TestCompactEdges(t *testing.T) {
	r := with(follows(), func(r *api.Raft) { r.Commit = 5 })
	wantCompact(t, r, 5, "", with(r, func(r *api.Raft) { r.Log, r.Snap = log(5, 4), nil }))
	r.Commit = 1
	wantNoCompact(t, r, 1)
	wantNoCompact(t, r, 2)
	r, _ = New(1, 1)
	wantNoCompact(t, r, 0)
	wantNoCompact(t, r, 1)
	// Who was told of a place far behind has it committed, but not at hand.
	r = with(follows(), func(r *api.Raft) { r.Commit = 9 })
	wantNoCompact(t, r, 6)
}

// 15.19: Same and Copy

func wantSame(t *testing.T, a, b api.Raft, want bool) {
	t.Helper()
	defer unchanged(t, a, wholeMember)()
	defer unchanged(t, b, wholeMember)()
	if Same(a, b) != want || Same(b, a) != want {
		t.Errorf("Same of %v and %v: %v, turned %v", a, b, Same(a, b), Same(b, a))
	}
}

// full is a member of which no field is zero.
func full() api.Raft {
	return api.Raft{Id: 2, N: 3, Term: 4, Vote: 1, Role: api.Leader, Lead: 1, Log: log(1, 1, 2, 2), Commit: 3, Snap: []byte("snap"),
		Granted: []bool{true, false, true}, Next: []int{4, 5, 6}, Match: []int{1, 2, 3}, Clock: 7, Wait: 8}
}

// changes is all that one field of a member may differ in.
func changes() []func(*api.Raft) {
	return []func(*api.Raft){
		func(r *api.Raft) { r.Id++ }, func(r *api.Raft) { r.N++ }, func(r *api.Raft) { r.Term++ }, func(r *api.Raft) { r.Vote++ },
		func(r *api.Raft) { r.Role-- }, func(r *api.Raft) { r.Lead++ }, func(r *api.Raft) { r.Commit++ },
		func(r *api.Raft) { r.Clock++ }, func(r *api.Raft) { r.Wait++ },
		func(r *api.Raft) { r.Log.Base++ }, func(r *api.Raft) { r.Log.BaseTerm++ }, func(r *api.Raft) { r.Log.Entries[1].Term++ },
		func(r *api.Raft) { r.Log.Entries[0].Data[0]++ }, func(r *api.Raft) { r.Log.Entries[1].Data = nil },
		func(r *api.Raft) { r.Log.Entries = r.Log.Entries[:1] }, func(r *api.Raft) { r.Log.Entries = nil },
		func(r *api.Raft) { r.Log = behind(r.Log, entry(2, "")) },
		func(r *api.Raft) { r.Snap[3]++ }, func(r *api.Raft) { r.Snap = r.Snap[:3] }, func(r *api.Raft) { r.Snap = nil },
		func(r *api.Raft) { r.Granted[1] = true }, func(r *api.Raft) { r.Granted = r.Granted[:2] },
		func(r *api.Raft) { r.Granted = nil }, func(r *api.Raft) { r.Granted = append(r.Granted, false) },
		func(r *api.Raft) { r.Next[0]++ }, func(r *api.Raft) { r.Next[2]-- }, func(r *api.Raft) { r.Next = r.Next[:2] },
		func(r *api.Raft) { r.Next = nil }, func(r *api.Raft) { r.Next = append(r.Next, 0) },
		func(r *api.Raft) { r.Match[0]++ }, func(r *api.Raft) { r.Match[2]-- }, func(r *api.Raft) { r.Match = r.Match[:2] },
		func(r *api.Raft) { r.Match = nil }, func(r *api.Raft) { r.Match = append(r.Match, 0) },
	}
}

func TestSameOfEachField(t *testing.T) {
	var list []api.Raft
	for _, change := range changes() {
		list = append(list, with(full(), change))
	}
	list = append(list, full(), follows(), asks(), stands(), leads(), api.Raft{})
	for i, a := range list {
		for k, b := range list {
			wantSame(t, roomyMember(a), b, i == k)
		}
	}
}

func TestSameOfNilAndEmpty(t *testing.T) {
	empty := api.Raft{Snap: []byte{}, Granted: []bool{}, Next: []int{}, Match: []int{}, Log: api.Log{Entries: []api.Entry{}}}
	wantSame(t, api.Raft{}, empty, true)
	wantSame(t, api.Raft{}, roomyMember(empty), true)
	a, b := full(), full()
	a.Log.Entries[0].Data, b.Log.Entries[0].Data = nil, []byte{}
	wantSame(t, a, b, true)
}

func TestCopy(t *testing.T) {
	list := []api.Raft{full(), {}}
	for _, r := range roles() {
		list = append(list, r)
	}
	for i, r := range list {
		r = roomyMember(r)
		done := unchanged(t, r, wholeMember)
		got := Copy(r)
		wantMember(t, "Copy", got, r, nil, nil)
		wantSame(t, got, r, true)
		wantNew(t, "Copy "+strconv.Itoa(i), memberSpans(got), memberSpans(r), memberSpans(Copy(r)))
		done()
	}
}

// What is no member: nothing is promised of it, but that the calls end, and it goes on as it is.

func TestCallsOfStrangersEnd(t *testing.T) {
	for _, s := range strangers() {
		for _, r := range roles() {
			r.Id, r.N, r.Clock = s[0], s[1], 100
			wantTick(t, r, 1, r)
			wantNoPropose(t, r, "paid")
			for kind := range 9 {
				wantReceive(t, r, api.Msg{Kind: kind, From: 1, To: s[0], Term: 9, Ok: true}, r)
			}
		}
	}
}

// Members whose numbers and lists go together in no way: no call panics.
func TestNoCallPanics(t *testing.T) {
	numbers := []int{math.MinInt, -1, 0, 1, 2, 3, 7, most, math.MaxInt}
	for seed := range 30000 {
		c := dice(uint64(seed))
		n := func() int { return numbers[c.next(len(numbers))] }
		list := func() []int {
			var l []int
			for range c.next(5) {
				l = append(l, n())
			}
			return l
		}
		l := api.Log{Base: n(), BaseTerm: n()}
		for range c.next(4) {
			l.Entries = append(l.Entries, entry(n(), "x"))
		}
		r := api.Raft{Id: 1 + c.next(3), N: 1 + c.next(4), Term: n(), Vote: n(), Role: c.next(5), Lead: n(), Log: l, Commit: n(),
			Granted: make([]bool, c.next(5)), Next: list(), Match: list(), Clock: n(), Wait: n()}
		x := api.Msg{Kind: c.next(9), From: 1 + c.next(4), To: r.Id, Term: n(), At: n(), AtTerm: n(), Commit: n(), Ok: c.next(2) == 0, Entries: l.Entries}
		done := unchanged(t, r, wholeMember)
		Tick(r, n())
		Receive(r, x)
		Propose(r, nil)
		Compact(r, n(), nil)
		Copy(r)
		wantSame(t, r, Copy(r), true)
		done()
	}
}
