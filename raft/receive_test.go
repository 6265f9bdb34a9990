package raft

import (
	"math"
	"slices"
	"testing"

	"funicular/api"
)

// kinds is the seven, and some that there are not.
func kinds() []int { return []int{0, 1, 2, 3, 4, 5, 6, 7, 8, -1, math.MaxInt, math.MinInt} }

// 15.11: which messages are looked at

func TestReceiveOfWhatIsNotLookedAt(t *testing.T) {
	good := api.Msg{From: 1, To: 2, Term: 5, At: 9, AtTerm: 5, Commit: 5}
	wrong := []func(*api.Msg){
		func(x *api.Msg) { x.To = 1 }, func(x *api.Msg) { x.To = 3 }, func(x *api.Msg) { x.To = 0 }, func(x *api.Msg) { x.To = -2 },
		func(x *api.Msg) { x.From = 2 }, func(x *api.Msg) { x.From = 0 }, func(x *api.Msg) { x.From = -1 },
		func(x *api.Msg) { x.From = 4 }, func(x *api.Msg) { x.From = 7 },
		func(x *api.Msg) { x.From = math.MaxInt }, func(x *api.Msg) { x.From = math.MinInt },
		func(x *api.Msg) { x.Term = -1 }, func(x *api.Msg) { x.Term = most + 1 },
		func(x *api.Msg) { x.Term = math.MaxInt }, func(x *api.Msg) { x.Term = math.MinInt },
		func(x *api.Msg) { x.At = -1 }, func(x *api.Msg) { x.At = math.MinInt },
	}
	for _, r := range roles() {
		for _, kind := range kinds() {
			for _, ok := range []bool{false, true} {
				for _, term := range []int{3, 4, 5} {
					for _, change := range wrong {
						x := good
						x.Kind, x.Ok, x.Term = kind, ok, term
						change(&x)
						wantReceive(t, r, x, r)
					}
				}
			}
		}
	}
}

// TestReceiveAtTheEdges: who it may be from, which term and place it may have.
func TestReceiveAtTheEdges(t *testing.T) {
	for n := 2; n <= 7; n++ {
		for id := 1; id <= n; id++ {
			for from := 1; from <= n; from++ {
				r, _ := New(id, n)
				x := api.Msg{Kind: api.MVote, From: from, To: id, Term: most, At: math.MaxInt}
				if from == id {
					wantReceive(t, r, x, r)
					continue
				}
				want := with(r, func(r *api.Raft) { r.Term, r.Vote = most, from })
				wantReceive(t, r, x, want, api.Msg{Kind: api.MVoteOk, From: id, To: from, Term: most, Ok: true})
				x.Term, x.At = 0, 0
				want.Term = 0
				wantReceive(t, r, x, want, api.Msg{Kind: api.MVoteOk, From: id, To: from, Ok: true})
			}
		}
	}
}

// Of a kind that there is not nothing comes, but that a term above its own is followed, as of all but those that ask ahead of one.
func TestReceiveOfNoKind(t *testing.T) {
	for _, r := range roles() {
		for _, kind := range []int{0, 8, -1, math.MaxInt, math.MinInt} {
			for _, ok := range []bool{false, true} {
				x := api.Msg{Kind: kind, From: 1, To: 2, Term: 4, At: 5, AtTerm: 4, Ok: ok, Commit: 5}
				wantReceive(t, r, x, r)
				x.Term = 3
				wantReceive(t, r, x, r)
				x.Term = 5
				wantReceive(t, r, x, followed(r, 5, 0))
			}
		}
	}
}

// 15.3, 15.11: a term above its own

func TestReceiveOfAGreaterTerm(t *testing.T) {
	for _, r := range roles() {
		for _, term := range []int{5, 6, 100, most} {
			x := api.Msg{From: 3, To: 2, Term: term}
			want := followed(r, term, 0)
			for _, kind := range []int{api.MVoteOk, api.MAppendOk, api.MAskOk} {
				x.Kind, x.Ok = kind, false
				wantReceive(t, r, x, want)
			}
			x.Kind, x.Ok = api.MVoteOk, true
			wantReceive(t, r, x, want)
			x.Kind, x.Ok, x.At = api.MAppendOk, true, 5
			wantReceive(t, r, x, want)
			x.Kind, x.Ok, x.At = api.MVote, false, 0 // of an older log: it has no vote, but its term counts
			wantReceive(t, r, x, want, api.Msg{Kind: api.MVoteOk, From: 2, To: 3, Term: term})
		}
	}
}

// Who asks ahead of a term, or would grant one, has begun none.
func TestReceiveAheadOfATerm(t *testing.T) {
	for name, r := range roles() {
		x := api.Msg{Kind: api.MAskOk, From: 3, To: 2, Term: 6, Ok: true} // the one behind the next
		wantReceive(t, r, x, r)
		x.Term = most
		wantReceive(t, r, x, r)
		x = api.Msg{Kind: api.MAsk, From: 3, To: 2, Term: 5}
		wantReceive(t, r, x, r, api.Msg{Kind: api.MAskOk, From: 2, To: 3, Term: 4})
		x.Kind, x.Ok = api.MAskOk, true
		if name != "asks" {
			wantReceive(t, r, x, r)
		}
	}
}

// 15.12: MAsk

func ask(term, at, atTerm int) api.Msg {
	return api.Msg{Kind: api.MAsk, From: 3, To: 2, Term: term, At: at, AtTerm: atTerm}
}

func wantAskOk(t *testing.T, r api.Raft, x api.Msg) {
	t.Helper()
	wantReceive(t, r, x, r, api.Msg{Kind: api.MAskOk, From: 2, To: 3, Term: x.Term, Ok: true})
}

func wantNoAskOk(t *testing.T, r api.Raft, x api.Msg) {
	t.Helper()
	wantReceive(t, r, x, r, api.Msg{Kind: api.MAskOk, From: 2, To: 3, Term: r.Term})
}

func TestAskByTerm(t *testing.T) {
	r := with(follows(), func(r *api.Raft) { r.Lead = 0 })
	for _, term := range []int{5, 6, most} {
		wantAskOk(t, r, ask(term, 5, 4))
	}
	for _, term := range []int{0, 3, 4} {
		wantNoAskOk(t, r, ask(term, 5, 4))
	}
}

func TestAskByLog(t *testing.T) {
	r := with(follows(), func(r *api.Raft) { r.Lead = 0 })
	for _, is := range [][2]int{{5, 4}, {6, 4}, {math.MaxInt, 4}, {0, 5}, {1, 5}, {9, math.MaxInt}} {
		wantAskOk(t, r, ask(5, is[0], is[1]))
	}
	for _, is := range [][2]int{{4, 4}, {0, 4}, {5, 3}, {99, 3}, {math.MaxInt, 0}, {99, -1}, {99, math.MinInt}} {
		wantNoAskOk(t, r, ask(5, is[0], is[1]))
	}
	r.Log = log(7, 3) // without entries: the one at Base
	wantAskOk(t, r, ask(5, 7, 3))
	wantNoAskOk(t, r, ask(5, 6, 3))
	wantNoAskOk(t, r, ask(5, 8, 2))
}

func TestAskByClock(t *testing.T) {
	for _, clock := range []int{0, 9, 10, 11, 100} {
		r := with(follows(), func(r *api.Raft) { r.Clock = clock })
		if clock < 10 {
			wantNoAskOk(t, r, ask(5, 5, 4))
		} else {
			wantAskOk(t, r, ask(5, 5, 4))
		}
		for _, r := range []api.Raft{asks(), stands(), with(r, func(r *api.Raft) { r.Lead = 0 })} {
			r.Clock = clock
			wantAskOk(t, r, ask(5, 5, 4))
		}
		r = with(leads(), func(r *api.Raft) { r.Clock = clock })
		wantNoAskOk(t, r, ask(5, 5, 4))
		r.Lead = 0 // as no leader is: it leads all the same
		wantNoAskOk(t, r, ask(5, 5, 4))
	}
}

// Who voted may say that it would vote for another one in a later term.
func TestAskOfWhoVoted(t *testing.T) {
	for vote := range 4 {
		r := with(follows(), func(r *api.Raft) { r.Lead, r.Vote = 0, vote })
		wantAskOk(t, r, ask(5, 5, 4))
	}
}

// 15.13: MVote

func vote(term, at, atTerm int) api.Msg {
	return api.Msg{Kind: api.MVote, From: 3, To: 2, Term: term, At: at, AtTerm: atTerm}
}

func wantVote(t *testing.T, r api.Raft, x api.Msg) {
	t.Helper()
	want := r
	if x.Term > r.Term {
		want = followed(r, x.Term, 0)
	}
	want.Vote, want.Clock = 3, 0
	wantReceive(t, r, x, want, api.Msg{Kind: api.MVoteOk, From: 2, To: 3, Term: x.Term, Ok: true})
}

func wantNoVote(t *testing.T, r api.Raft, x api.Msg) {
	t.Helper()
	want := r
	if x.Term > r.Term {
		want = followed(r, x.Term, 0)
	}
	wantReceive(t, r, x, want, api.Msg{Kind: api.MVoteOk, From: 2, To: 3, Term: want.Term})
}

func TestVoteByVote(t *testing.T) {
	for lead := range 4 {
		r := with(follows(), func(r *api.Raft) { r.Lead = lead })
		wantVote(t, r, vote(4, 5, 4))
		r.Vote = 3
		wantVote(t, r, vote(4, 5, 4))
		for _, other := range []int{1, 2} {
			r.Vote = other
			wantNoVote(t, r, vote(4, 5, 4))
			wantVote(t, r, vote(5, 5, 4)) // in another term it has not voted yet
		}
	}
}

func TestVoteByRole(t *testing.T) {
	for name, r := range roles() {
		for vote0 := range 4 {
			r.Vote = vote0
			if name != "follows" {
				wantNoVote(t, r, vote(4, 5, 4))
			}
			wantVote(t, r, vote(5, 5, 4))
			wantVote(t, r, vote(most, 5, 4))
			wantNoVote(t, r, vote(5, 4, 4))
			wantNoVote(t, r, vote(3, 5, 4))
			wantNoVote(t, r, vote(0, 99, 99))
		}
	}
}

func TestVoteByLog(t *testing.T) {
	r := follows()
	for _, is := range [][2]int{{5, 4}, {6, 4}, {math.MaxInt, 4}, {0, 5}, {1, 5}} {
		wantVote(t, r, vote(4, is[0], is[1]))
		wantVote(t, r, vote(5, is[0], is[1]))
	}
	for _, is := range [][2]int{{4, 4}, {0, 4}, {5, 3}, {99, 3}, {99, math.MinInt}} {
		wantNoVote(t, r, vote(4, is[0], is[1]))
		wantNoVote(t, r, vote(5, is[0], is[1]))
	}
}

// 15.14: MAppend and MSnap

func appends(term, at, atTerm, commit int, entries ...api.Entry) api.Msg {
	return api.Msg{Kind: api.MAppend, From: 3, To: 2, Term: term, At: at, AtTerm: atTerm, Commit: commit, Entries: entries}
}

func snaps(term, at, atTerm int) api.Msg {
	return api.Msg{Kind: api.MSnap, From: 3, To: 2, Term: term, At: at, AtTerm: atTerm, Commit: 99, Data: []byte("sent")}
}

// wantAppended fails the test, if a member does not follow 3, say what it has, and have that log, so much of it committed.
func wantAppended(t *testing.T, r api.Raft, x api.Msg, l api.Log, commit, at int, ok bool) {
	t.Helper()
	want := with(followed(r, x.Term, 3), func(r *api.Raft) { r.Log, r.Commit, r.Clock = l, commit, 0 })
	wantReceive(t, r, x, want, api.Msg{Kind: api.MAppendOk, From: 2, To: 3, Term: x.Term, At: at, Ok: ok})
}

func TestAppendOfAnOlderTerm(t *testing.T) {
	for _, r := range roles() {
		for _, term := range []int{0, 1, 3} {
			for _, x := range []api.Msg{appends(term, 5, 4, 5), appends(term, 5, 4, 6, entry(4, "new")), snaps(term, 9, 3)} {
				wantReceive(t, r, x, r, api.Msg{Kind: api.MAppendOk, From: 2, To: 3, Term: 4})
			}
		}
	}
}

func TestAppendToOneThatLeads(t *testing.T) {
	for _, x := range []api.Msg{appends(4, 5, 4, 5), appends(4, 5, 4, 6, entry(4, "new")), snaps(4, 9, 4)} {
		wantReceive(t, leads(), x, leads(), api.Msg{Kind: api.MAppendOk, From: 2, To: 3, Term: 4})
	}
}

func TestAppendOfItsTermAndLater(t *testing.T) {
	for _, r := range roles() {
		l := r.Log
		for _, term := range []int{4, 5, 100, most} {
			if term == 4 && r.Role == api.Leader {
				continue
			}
			wantAppended(t, r, appends(term, 5, 4, 3), l, 3, 5, true)
			wantAppended(t, r, appends(term, 6, 4, 3), l, 3, 5, false)
			e := entry(term, "new")
			wantAppended(t, r, appends(term, 5, 4, 3, e), behind(l, e), 3, 6, true)
			wantAppended(t, r, appends(term, 5, 4, 9, e), behind(l, e), 6, 6, true)
		}
	}
}

// The vote of a term stays, whomever it follows.
func TestAppendKeepsTheVote(t *testing.T) {
	for vote := range 4 {
		r := with(follows(), func(r *api.Raft) { r.Vote = vote })
		wantAppended(t, r, appends(4, 5, 4, 3), r.Log, 3, 5, true)
		wantReceive(t, r, snaps(4, 3, 2), with(r, func(r *api.Raft) { r.Lead, r.Clock = 3, 0 }),
			api.Msg{Kind: api.MAppendOk, From: 2, To: 3, Term: 4, At: 3, Ok: true})
	}
}

func TestAppendCommits(t *testing.T) {
	r := follows()
	// Told of no entry: up to the place ahead alone, however much is committed there.
	for _, is := range [][3]int{{3, 4, 3}, {3, 0, 3}, {3, 3, 3}, {3, 99, 3}, {2, 99, 3}, {1, 99, 3}, {4, 99, 4}, {4, 4, 4}, {4, 3, 3}, {5, 99, 5}, {5, 5, 5}, {5, 4, 4}, {5, -1, 3}, {5, math.MaxInt, 5}, {5, math.MinInt, 3}} {
		term := []int{1, 2, 2, 4, 4}[is[0]-1]
		wantAppended(t, r, appends(4, is[0], term, is[1]), r.Log, is[2], is[0], true)
	}
	// Entries that are there already: those behind them stay, and are not committed by that.
	wantAppended(t, r, appends(4, 2, 2, 99, r.Log.Entries[1:3]...), r.Log, 4, 4, true)
	wantAppended(t, r, appends(4, 2, 2, 99, r.Log.Entries[1:2]...), r.Log, 3, 3, true)
	wantAppended(t, r, appends(4, 1, 1, 4, r.Log.Entries...), r.Log, 4, 5, true)
	// Others take their place.
	e := entry(5, "new")
	l := api.Log{Base: 1, BaseTerm: 1, Entries: append(ownEntries(r.Log.Entries[:2]), e)}
	wantAppended(t, r, appends(5, 3, 2, 3, e), l, 3, 4, true)
	wantAppended(t, r, appends(5, 3, 2, 4, e), l, 4, 4, true)
	wantAppended(t, r, appends(5, 2, 2, 4, r.Log.Entries[1], e), l, 4, 4, true)
}

// What does not fit changes nothing of the log, nor of what is committed; the place told is where to try again.
func TestAppendThatDoesNotFit(t *testing.T) {
	r := follows()
	e := entry(4, "new")
	for _, is := range [][3]int{{6, 4, 5}, {9, 4, 5}, {math.MaxInt, 4, 5}, {5, 3, 3}, {4, 3, 3}, {5, 5, 3}, {3, 1, 1}, {2, 1, 1}, {1, 2, 1}} {
		wantAppended(t, r, appends(4, is[0], is[1], 99), r.Log, 3, is[2], false)
		wantAppended(t, r, appends(4, is[0], is[1], 99, e), r.Log, 3, is[2], false)
	}
}

// What lies ahead of the log's Base was agreed on.
func TestAppendAheadOfBase(t *testing.T) {
	r := with(follows(), func(r *api.Raft) { r.Log = log(3, 2, 4, 4) })
	wantAppended(t, r, appends(4, 0, 0, 99), r.Log, 3, 3, true)
	wantAppended(t, r, appends(4, 0, 0, 99, entry(1, ""), entry(2, "")), r.Log, 3, 3, true)
	wantAppended(t, r, appends(4, 1, 1, 99, entry(2, ""), entry(2, "")), r.Log, 3, 3, true)
	wantAppended(t, r, appends(4, 1, 1, 99, entry(2, ""), entry(2, ""), r.Log.Entries[0]), r.Log, 4, 4, true)
}

func TestSnap(t *testing.T) {
	for _, was := range roles() {
		for _, term := range []int{4, 5} {
			if term == 4 && was.Role == api.Leader {
				continue
			}
			told := func(at int) api.Msg {
				return api.Msg{Kind: api.MAppendOk, From: 2, To: 3, Term: term, At: at, Ok: true}
			}
			none := with(followed(was, term, 3), func(r *api.Raft) { r.Clock = 0 })
			for _, at := range []int{0, 1, 2, 3} { // up to what is committed
				wantReceive(t, was, snaps(term, at, 1), none, told(3))
			}
			taken := func(l api.Log) api.Raft {
				return with(none, func(r *api.Raft) { r.Log, r.Commit, r.Snap = l, l.Base, []byte("sent") })
			}
			kept := api.Log{Base: 4, BaseTerm: 4, Entries: was.Log.Entries[3:]}
			wantReceive(t, was, snaps(term, 4, 4), taken(kept), told(4)) // what fits behind it stays
			wantReceive(t, was, snaps(term, 4, 3), taken(log(4, 3)), told(4))
			wantReceive(t, was, snaps(term, 5, 4), taken(log(5, 4)), told(5))
			wantReceive(t, was, snaps(term, 6, 4), taken(log(6, 4)), told(6))
			wantReceive(t, was, snaps(term, most, 4), taken(log(most, 4)), told(most))
		}
	}
}

func TestSnapWithoutBytes(t *testing.T) {
	x := snaps(4, 9, 4)
	x.Data = nil
	want := with(follows(), func(r *api.Raft) { r.Lead, r.Clock, r.Log, r.Commit, r.Snap = 3, 0, log(9, 4), 9, nil })
	wantReceive(t, follows(), x, want, api.Msg{Kind: api.MAppendOk, From: 2, To: 3, Term: 4, At: 9, Ok: true})
}

// 15.15: MAppendOk

func appended(term, at int, ok bool) api.Msg {
	return api.Msg{Kind: api.MAppendOk, From: 3, To: 2, Term: term, At: at, Ok: ok}
}

// tells is what a leader, which is member 2, tells 3.
func tells(r api.Raft, next int) api.Msg {
	m := api.Msg{Kind: api.MAppend, From: 2, To: 3, Term: r.Term, At: next - 1, AtTerm: r.Log.BaseTerm, Commit: r.Commit}
	if i := next - r.Log.Base - 1; i > 0 {
		m.AtTerm = r.Log.Entries[i-1].Term
	}
	rest := r.Log.Entries[next-r.Log.Base-1:]
	m.Entries = rest[:min(8, len(rest))]
	return m
}

func TestAppendOkOfNoLeader(t *testing.T) {
	for name, r := range roles() {
		for _, ok := range []bool{false, true} {
			for _, at := range []int{0, 3, 5, 9} {
				wantReceive(t, r, appended(3, at, ok), r)
				wantReceive(t, r, appended(0, at, ok), r)
				if name != "leads" {
					wantReceive(t, r, appended(4, at, ok), r)
				}
				wantReceive(t, r, appended(5, at, ok), followed(r, 5, 0))
			}
		}
	}
}

// leader is one of five, with entries of the terms 2, 2, 4, 4 behind 1, and what it knows of 3.
func leader(next, match int) api.Raft {
	return with(leads(), func(r *api.Raft) {
		r.N, r.Next, r.Match = 5, []int{6, 5, next, 6, 6}, []int{0, 5, match, 0, 0}
	})
}

func TestAppendOkNotesAndTells(t *testing.T) {
	for _, is := range []struct{ next, match, at, newNext, newMatch int }{
		{4, 0, 3, 4, 3}, // the next ones
		{4, 0, 2, 4, 2},
		{4, 0, 4, 5, 4},
		{2, 0, 4, 5, 4},
		{4, 3, 2, 4, 3}, // late
		{4, 3, 3, 4, 3}, // twice
		{4, 3, 0, 4, 3},
		{5, 4, 1, 5, 4},
		{5, 1, 3, 5, 3},
		{5, 1, 4, 5, 4},
	} {
		r := leader(is.next, is.match)
		want := leader(is.newNext, is.newMatch)
		wantReceive(t, r, appended(4, is.at, true), want, tells(want, is.newNext))
	}
}

// Who has all is told nothing; what lies beyond the last place is nobody's.
func TestAppendOkOfAll(t *testing.T) {
	for _, at := range []int{5, 6, 100, most, math.MaxInt} {
		for _, next := range []int{1, 2, 5, 6} {
			for _, match := range []int{0, 4, 5} {
				if match < next {
					wantReceive(t, leader(next, match), appended(4, at, true), leader(6, 5))
				}
			}
		}
	}
	wantReceive(t, leader(6, 2), appended(4, 4, true), leader(6, 4)) // it is on its way
	wantReceive(t, leader(6, 2), appended(4, 1, true), leader(6, 2))
}

func TestAppendOkThatDidNotFit(t *testing.T) {
	for _, is := range []struct{ next, match, at, newNext int }{
		{6, 0, 5, 5}, // one less
		{6, 0, 4, 5},
		{6, 0, 3, 4}, // behind At
		{6, 0, 1, 2},
		{6, 0, 99, 5},
		{6, 0, math.MaxInt, 5},
		{6, 0, math.MaxInt - 1, 5},
		{3, 0, 5, 2},
		{3, 0, 1, 2},
		{6, 2, 1, 3}, // at least behind Match
		{6, 4, 0, 5},
		{6, 5, 0, 6},
		{5, 4, 0, 5},
		{4, 2, 9, 3},
		{3, 2, 9, 3},
	} {
		r := leader(is.next, is.match)
		want := leader(is.newNext, is.match)
		wantReceive(t, r, appended(4, is.at, false), want, tells(want, is.newNext))
	}
}

// Who is behind the log's Base is told by the snapshot.
func TestAppendOkOfWhoIsFarBehind(t *testing.T) {
	snap := api.Msg{Kind: api.MSnap, From: 2, To: 3, Term: 4, At: 1, AtTerm: 1, Commit: 3, Data: []byte("snap")}
	for _, is := range [][3]int{{2, 0, 1}, {2, 9, 1}, {6, 0, 1}, {1, 0, 1}, {1, 9, 1}} {
		wantReceive(t, leader(is[0], 0), appended(4, is[1], false), leader(is[2], 0), snap)
	}
	// It says that it has what stands ahead of Base: not enough yet.
	r := with(leader(1, 0), func(r *api.Raft) { r.Log = log(4, 2, 4, 4); r.Commit = 4; r.Match[1] = 6 })
	want := with(r, func(r *api.Raft) { r.Match[2], r.Next[2] = 2, 3 })
	snap.At, snap.AtTerm, snap.Commit = 4, 2, 4
	wantReceive(t, r, appended(4, 2, true), want, snap)
	// It has the snapshot, and is told what stands behind.
	want = with(r, func(r *api.Raft) { r.Match[2], r.Next[2] = 4, 5 })
	wantReceive(t, r, appended(4, 4, true), want, tells(want, 5))
}

func TestAppendOkOfMoreThanMaxBatch(t *testing.T) {
	r := with(leader(2, 0), func(r *api.Raft) { r.Log = log(1, 1, same(25, 4)...); r.Match[1] = 26 })
	for _, at := range []int{1, 9, 17, 18, 19} {
		want := with(r, func(r *api.Raft) { r.Match[2], r.Next[2] = at, at+1 })
		told := tells(want, at+1)
		if n := len(told.Entries); n != min(8, 26-at) {
			t.Errorf("%d entries behind %d", n, at)
		}
		wantReceive(t, r, appended(4, at, true), want, told)
	}
}

// 15.8: what is committed

func TestAppendOkCommits(t *testing.T) {
	for _, is := range []struct {
		match          []int
		at, commit, to int
	}{
		{[]int{0, 5, 0}, 5, 3, 5},
		{[]int{0, 5, 0}, 4, 3, 4},
		{[]int{0, 5, 0}, 3, 3, 3},
		{[]int{0, 5, 0}, 3, 2, 2}, // of an older term: not by being counted
		{[]int{0, 5, 0}, 2, 1, 1},
		{[]int{3, 5, 3}, 3, 1, 1},
		{[]int{0, 5, 0}, 4, 1, 4}, // with one of its own term all ahead of it
		{[]int{4, 5, 0}, 5, 4, 5},
		{[]int{5, 5, 0}, 5, 5, 5},
		{[]int{0, 5, 0}, 4, 5, 5}, // never back
		{[]int{0, 5, 0, 0, 0}, 5, 3, 3},
		{[]int{5, 5, 0, 0, 0}, 5, 3, 5},
		{[]int{4, 5, 0, 0, 0}, 5, 3, 4},
		{[]int{3, 5, 0, 0, 0}, 5, 2, 2},
		{[]int{0, 5, 0, 0}, 5, 3, 3}, // of four three are enough
		{[]int{5, 5, 0, 0}, 5, 3, 5},
		{[]int{5, 4, 0}, 1, 3, 4}, // its own place counts as all others'
	} {
		n := len(is.match)
		r := with(leads(), func(r *api.Raft) { r.N, r.Match, r.Next, r.Commit = n, is.match, same(n, 6), is.commit })
		want := with(r, func(r *api.Raft) { r.Match[2], r.Commit = max(is.at, r.Match[2]), is.to })
		wantReceive(t, r, appended(4, is.at, true), want)
	}
}

// What is committed by a message is told along with the next one, to its sender.
func TestAppendOkTellsWhatIsCommitted(t *testing.T) {
	r := with(leads(), func(r *api.Raft) { r.Next, r.Match = []int{6, 6, 3}, []int{0, 5, 0} })
	want := with(r, func(r *api.Raft) { r.Next, r.Match, r.Commit = []int{6, 6, 5}, []int{0, 5, 4}, 4 })
	told := tells(want, 5)
	if told.Commit != 4 {
		t.Error(told)
	}
	wantReceive(t, r, appended(4, 4, true), want, told)
}

// What does not fit commits nothing.
func TestAppendOkThatDidNotFitCommitsNothing(t *testing.T) {
	r := with(leads(), func(r *api.Raft) { r.Next, r.Match = []int{6, 6, 6}, []int{5, 5, 0} })
	want := with(r, func(r *api.Raft) { r.Next[2] = 5 })
	wantReceive(t, r, appended(4, 5, false), want, tells(want, 5))
}

// 15.16: MAskOk and MVoteOk

func askOk(from, term int, ok bool) api.Msg {
	return api.Msg{Kind: api.MAskOk, From: from, To: 2, Term: term, Ok: ok}
}

func voteOk(from, term int, ok bool) api.Msg {
	return api.Msg{Kind: api.MVoteOk, From: from, To: 2, Term: term, Ok: ok}
}

// stood is what a member of several is that stands.
func stood(r api.Raft) api.Raft {
	return with(followed(r, r.Term+1, 0), func(r *api.Raft) {
		r.Vote, r.Role, r.Clock, r.Granted = r.Id, api.Candidate, 0, truths(r.N, r.Id)
	})
}

// led is what a member of several is that leads, and what it tells.
func led(r api.Raft) (api.Raft, []api.Msg) {
	last := r.Log.Base + len(r.Log.Entries)
	term := r.Log.BaseTerm
	if len(r.Log.Entries) > 0 {
		term = r.Log.Entries[len(r.Log.Entries)-1].Term
	}
	new := api.Entry{Term: r.Term}
	want := with(followed(r, r.Term, r.Id), func(r *api.Raft) {
		r.Role, r.Clock, r.Log, r.Next, r.Match = api.Leader, 0, behind(r.Log, new), same(r.N, last+1), same(r.N, 0)
		r.Match[r.Id-1] = last + 1
	})
	var told []api.Msg
	for to := 1; to <= r.N; to++ {
		if to != r.Id {
			told = append(told, api.Msg{Kind: api.MAppend, From: r.Id, To: to, Term: r.Term, At: last, AtTerm: term, Commit: r.Commit, Entries: []api.Entry{new}})
		}
	}
	return want, told
}

func TestGrantsJustEnough(t *testing.T) {
	for n := 2; n <= 7; n++ {
		enough := n/2 + 1
		for have := 1; have < n; have++ {
			who := append([]int{2}, []int{1, 3, 4, 5, 6}[:have-1]...)
			from := 0
			for one := 1; one <= n; one++ {
				if !slices.Contains(who, one) {
					from = one
				}
			}
			asker := with(asks(), func(r *api.Raft) { r.N, r.Granted = n, truths(n, who...) })
			stander := with(stands(), func(r *api.Raft) { r.N, r.Granted = n, truths(n, who...) })
			granted := func(r *api.Raft) { r.Granted[from-1] = true }
			if have+1 < enough {
				wantReceive(t, asker, askOk(from, 5, true), with(asker, granted))
				wantReceive(t, stander, voteOk(from, 4, true), with(stander, granted))
				continue
			}
			want := stood(asker)
			wantReceive(t, asker, askOk(from, 5, true), want, bids(want, api.MVote, 5)...)
			want, told := led(stander)
			wantReceive(t, stander, voteOk(from, 4, true), want, told...)
		}
	}
}

func TestGrantsTwice(t *testing.T) {
	asker := with(asks(), func(r *api.Raft) { r.N, r.Granted = 5, truths(5, 2, 4) })
	wantReceive(t, asker, askOk(4, 5, true), asker)
	stander := with(stands(), func(r *api.Raft) { r.N, r.Granted = 5, truths(5, 2, 4) })
	wantReceive(t, stander, voteOk(4, 4, true), stander)
}

// Late, of another term, not granted, to another role: nothing.
func TestGrantsThatDoNotCount(t *testing.T) {
	for name, r := range roles() {
		for _, term := range []int{0, 3, 4} {
			wantReceive(t, r, askOk(1, term, true), r)
			wantReceive(t, r, askOk(1, term, false), r)
			wantReceive(t, r, voteOk(1, term, false), r)
			if term < 4 || name != "stands" {
				wantReceive(t, r, voteOk(1, term, true), r)
			}
		}
		if name != "asks" {
			wantReceive(t, r, askOk(1, 5, true), r)
		}
		wantReceive(t, r, askOk(1, 6, true), r)
		wantReceive(t, r, askOk(1, 5, false), followed(r, 5, 0))
		wantReceive(t, r, voteOk(1, 5, true), followed(r, 5, 0))
		wantReceive(t, r, voteOk(1, 5, false), followed(r, 5, 0))
	}
}

// 15.6: whoever leads begins with an entry, wherever its log ends.
func TestLeadsFromAnyLog(t *testing.T) {
	for _, l := range []api.Log{{}, log(0, 0, 1), log(7, 3), log(7, 3, 3, 4), log(0, 0, same(20, 2)...)} {
		r := with(stands(), func(r *api.Raft) { r.Log, r.Commit = l, l.Base })
		want, told := led(r)
		wantReceive(t, r, voteOk(3, 4, true), want, told...)
	}
}

// The words 'likewise' of 15.5: the place and the term of the last entry, also where that is the one at Base.
func TestStandsWithAnyLog(t *testing.T) {
	for _, l := range []api.Log{{}, log(0, 0, 1), log(7, 3), log(7, 3, 3, 4)} {
		r := with(asks(), func(r *api.Raft) { r.Log, r.Commit = l, l.Base })
		want := stood(r)
		wantReceive(t, r, askOk(1, 5, true), want, bids(want, api.MVote, 5)...)
	}
}

// Ten examples of the whole, 1 and 2: of three, one that lacks what is committed can't lead.
func TestThreeChooseOne(t *testing.T) {
	var l []api.Raft
	for id := 1; id <= 3; id++ {
		r, _ := New(id, 3)
		l = append(l, r)
	}
	var net []api.Msg
	tick := func(who int) {
		for range 20 {
			r, sent := Tick(l[who-1], 0)
			l[who-1], net = r, append(net, sent...)
			if len(sent) > 0 {
				return
			}
		}
	}
	carry := func(lost int) {
		for ; len(net) > 0; net = net[1:] {
			if x := net[0]; x.To != lost && x.From != lost {
				r, sent := Receive(l[x.To-1], x)
				l[x.To-1], net = r, append(net, sent...)
			}
		}
	}
	tick(1)
	carry(3) // 3 hears of nothing
	if l[0].Role != api.Leader || l[0].Commit != 1 || l[1].Lead != 1 || l[2].Term != 0 {
		t.Fatal(l)
	}
	for range 3 {
		tick(3)
		carry(1)
	}
	if l[2].Role == api.Leader || l[1].Lead == 3 {
		t.Fatal(l)
	}
	for range 12 {
		r, _ := Tick(l[1], 0)
		l[1] = r
	}
	tick(2)
	carry(1)
	if l[1].Role != api.Leader || l[1].Commit != 2 || l[2].Lead != 2 || len(l[2].Log.Entries) != 2 {
		t.Fatal(l)
	}
}
