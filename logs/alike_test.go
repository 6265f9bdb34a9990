package logs

import (
	"strconv"
	"testing"

	"funicular/api"
)

// 13.9: what follows, on logs that several keep as a group does

// group is logs of several, each term's entries being made by one of them alone, as a group's leaders do.
type group struct {
	*chance
	term int
	logs []api.Log
}

func newGroup(seed uint64, n int) *group { return &group{chance: dice(seed), logs: make([]api.Log, n)} }

// lead is one of them that makes entries of a term that nobody made any of: their bytes tell them from all others.
func (g *group) lead() {
	g.term += 1 + g.next(2)
	who := g.next(len(g.logs))
	for range 1 + g.next(4) {
		e := entry(g.term, strconv.Itoa(g.term)+" at "+strconv.Itoa(Last(g.logs[who])+1))
		g.logs[who] = Behind(g.logs[who], e)
	}
}

// tell is what one tells another: from where on, the term there, and up to so many entries behind; false: that is not there any more.
func (g *group) tell(who, at, n int) (int, []api.Entry, bool) {
	term, found := Term(g.logs[who], at)
	return term, From(g.logs[who], at+1, n), found
}

// shared is the last place up to which all have the same, by their terms: so far may snapshots stand for all. What one has taken into a snapshot all had.
func (g *group) shared() int {
	at := 0
	for _, l := range g.logs {
		at = max(at, l.Base)
	}
	for {
		first, _ := Term(g.logs[0], at+1)
		for _, l := range g.logs {
			if term, found := Term(l, at+1); !found || term != first {
				return at
			}
		}
		at++
	}
}

// termOf is the term at a place, of the first log that tells one.
func termOf(logs []api.Log, at int) int {
	for _, l := range logs {
		if term, found := Term(l, at); found {
			return term
		}
	}
	return 0
}

// entryAt is what a log has at a place; of Base, and of what is ahead of it, it knows nothing.
func entryAt(l api.Log, at int) (api.Entry, bool) {
	if at <= l.Base || at > Last(l) {
		return api.Entry{}, false
	}
	return l.Entries[at-l.Base-1], true
}

// wantAlike fails the test, if two logs have other entries somewhere up to a place.
func wantAlike(t *testing.T, a, b api.Log, upto int) {
	t.Helper()
	for at := 1; at <= upto; at++ {
		e, inA := entryAt(a, at)
		f, inB := entryAt(b, at)
		if inA && inB && (e.Term != f.Term || string(e.Data) != string(f.Data)) {
			t.Errorf("%v and %v are others at %d", brief(a), brief(b), at)
		}
	}
}

// wantTwiceAlike fails the test, if what fits changes anything, put once more.
func wantTwiceAlike(t *testing.T, l api.Log, at, term int, entries []api.Entry) {
	t.Helper()
	once, place, fits := Put(l, at, term, entries)
	if !fits {
		return
	}
	wantPut(t, once, at, term, entries, once, place, true)
	if Last(once) < place {
		t.Errorf("Put(%v, %d, %d, %v) tells of %d: there is nothing", brief(l), at, term, brief(of(0, 0, entries)), place)
	}
}

// wantCompactedAlike fails the test, if a log takes something else on when it is compacted at one of the places where nothing is taken away.
func wantCompactedAlike(t *testing.T, l api.Log, at, term int, entries []api.Entry) int {
	t.Helper()
	put, place, fits := Put(l, at, term, entries)
	n := 0
	for snap := l.Base; snap <= Last(l); snap++ {
		was, _ := Compact(l, snap)
		if at < snap && !fits {
			break // what lies ahead of the snapshot was agreed on: it would not have been told
		}
		want, err := Compact(put, snap)
		if e, _ := Term(put, snap); err != api.OK || e != was.BaseTerm {
			break // it was taken away: no snapshot would stand for it
		}
		wantPut(t, was, at, term, entries, want, max(place, snap), fits)
		n++
	}
	return n
}

func TestWhatFitsMakesLogsAlike(t *testing.T) {
	fitted, refused, snaps, bases := 0, 0, 0, map[int]int{}
	for seed := range 400 {
		g := newGroup(uint64(seed), 3)
		for range 60 {
			if g.next(4) == 0 {
				g.lead()
			}
			from, to := g.next(3), g.next(3)
			if g.next(6) == 0 {
				at := g.logs[to].Base
				at += g.next(g.shared() - at + 1)
				wantTerm(t, g.logs[to], at, termOf(g.logs, at))
				g.logs[to], _ = Compact(g.logs[to], at)
				bases[at]++
			}
			at := g.next(Last(g.logs[from]) + 1)
			if g.next(2) == 0 {
				at = g.shared() // so that they come together, too
			}
			term, entries, found := g.tell(from, at, g.next(6))
			if !found {
				continue
			}
			wantTwiceAlike(t, g.logs[to], at, term, entries)
			snaps += wantCompactedAlike(t, g.logs[to], at, term, entries)
			put, place, fits := Put(g.logs[to], at, term, entries)
			if fits {
				wantAlike(t, put, g.logs[from], place)
				fitted++
			} else {
				wantSame(t, put, g.logs[to], true)
				refused++
			}
			g.logs[to] = put
			wantCheck(t, put, api.OK)
		}
		if t.Failed() {
			t.Fatalf("seed %d", seed)
		}
	}
	if fitted < 2000 || refused < 2000 || snaps < 2000 || len(bases) < 10 {
		t.Errorf("%d fitted, %d did not, %d compacted, at %v", fitted, refused, snaps, bases)
	}
}

// Who is told where to try again is there at last, and then has all that the other has.
func TestTryingAgainComesToAnEnd(t *testing.T) {
	for seed := range 400 {
		g := newGroup(uint64(seed), 2)
		for range 12 {
			g.lead()
			if g.next(3) == 0 { // from the beginning, some of it
				put, _, _ := Put(g.logs[0], 0, 0, From(g.logs[1], 1, 1+g.next(8)))
				g.logs[0] = put
			}
		}
		from, l := g.logs[1], g.logs[0]
		at := Last(from)
		for tries := 0; ; tries++ {
			term, _ := Term(from, at)
			put, place, fits := Put(l, at, term, From(from, at+1, 1000))
			if fits {
				wantFrom(t, put, 1, place, From(from, 1, 1000))
				if place != Last(from) {
					t.Errorf("seed %d: up to %d, want %d", seed, place, Last(from))
				}
				break
			}
			if place >= at || tries > 100 {
				t.Fatalf("seed %d: behind %d it is to be tried again at %d", seed, at, place)
			}
			at = place
		}
	}
}

// A log of another that was put whole is the same as that one, wherever both begin.
func TestPutWhole(t *testing.T) {
	for seed := range 300 {
		c := dice(uint64(seed))
		l := c.log(20)
		got, place, fits := Put(of(l.Base, l.BaseTerm, nil), l.Base, l.BaseTerm, l.Entries)
		if !fits || place != Last(l) {
			t.Errorf("%v: %d, %v", brief(l), place, fits)
		}
		wantSame(t, got, l, true)
		// Entry by entry, and in pieces that lie over one another.
		got = of(l.Base, l.BaseTerm, nil)
		for at := l.Base; at < Last(l); at++ {
			term, _ := Term(l, at)
			got, _, fits = Put(got, at, term, From(l, at+1, 1+c.next(4)))
			if !fits {
				t.Errorf("%v does not fit at %d", brief(l), at)
			}
		}
		wantSame(t, got, l, true)
		// What is compacted takes the same on as what is not.
		for at := l.Base; at <= Last(l); at++ {
			part, _ := Compact(l, at)
			whole, _, _ := Put(part, l.Base, l.BaseTerm, l.Entries)
			wantSame(t, whole, part, true)
			short := of(at, part.BaseTerm, nil)
			whole, _, fits = Put(short, l.Base, l.BaseTerm, l.Entries)
			if !fits {
				t.Errorf("%v does not fit at %d", brief(l), at)
			}
			wantSame(t, whole, part, true)
		}
	}
}

// Put once more, and compacted, on all small logs: also such as no group has.
func TestEverySmallFollows(t *testing.T) {
	n := 0
	for _, l := range everySmall() {
		for at := range 8 {
			for term := range 4 {
				for _, terms := range rising(3, max(term, 1), 3) {
					if at < l.Base && len(terms) > 0 && terms[0] < l.BaseTerm {
						continue // what is left of it may be none that stands behind Base
					}
					entries := come(terms...)
					wantTwiceAlike(t, l, at, term, entries)
					n += wantCompactedAlike(t, l, at, term, entries)
				}
			}
		}
		if t.Failed() {
			return
		}
	}
	if n < 50000 {
		t.Errorf("%d", n)
	}
}
