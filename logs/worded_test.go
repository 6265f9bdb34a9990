package logs

import (
	"slices"
	"strconv"
	"testing"

	"funicular/api"
)

// The promises once more, by another code: a log as what stands at which place.

// row is a log's entries by their places; at its base stands one without bytes.
type row struct {
	base    int
	entries map[int]api.Entry
}

func rowOf(l api.Log) row {
	r := row{base: l.Base, entries: map[int]api.Entry{l.Base: {Term: l.BaseTerm}}}
	for i, e := range l.Entries {
		r.entries[l.Base+1+i] = e
	}
	return r
}

func (r row) last() int {
	at := r.base
	for r.stands(at + 1) {
		at++
	}
	return at
}

func (r row) stands(at int) bool {
	_, found := r.entries[at]
	return found
}

// log is the row as a log again.
func (r row) log() api.Log {
	l := api.Log{Base: r.base, BaseTerm: r.entries[r.base].Term}
	for at := r.base + 1; r.stands(at); at++ {
		l.Entries = append(l.Entries, r.entries[at])
	}
	return l
}

// wordedCheck is 13.1.
func wordedCheck(l api.Log) api.Errno {
	within := func(n, least int) bool { return n >= least && n <= 1<<40 }
	may := within(l.Base, 0) && within(l.BaseTerm, 0) && (l.Base == 0 && l.BaseTerm == 0 || l.Base != 0 && l.BaseTerm != 0)
	for i, e := range l.Entries {
		may = may && within(e.Term, 1) && e.Term >= l.BaseTerm && (i == 0 || e.Term >= l.Entries[i-1].Term)
	}
	if !may {
		return api.ErrArg
	}
	return api.OK
}

// wordedFrom is 13.3.
func wordedFrom(l api.Log, at, most int) []api.Entry {
	r := rowOf(l)
	var list []api.Entry
	for ; at > l.Base && r.stands(at) && len(list) < most; at++ {
		list = append(list, r.entries[at])
	}
	return list
}

// wordedPut is 13.5.
func wordedPut(l api.Log, at, term int, entries []api.Entry) (api.Log, int, bool) {
	r := rowOf(l)
	if at < l.Base && len(entries) < l.Base-at {
		return l, l.Base, true
	}
	if at < l.Base {
		return wordedPut(l, l.Base, l.BaseTerm, entries[l.Base-at:])
	}
	if !r.stands(at) {
		return l, r.last(), false
	}
	if has := r.entries[at].Term; has != term {
		side := map[int]bool{} // those side by side with it that have its term
		for place := at; place > l.Base && r.entries[place].Term == has; place-- {
			side[place] = true
		}
		for place := l.Base; ; place++ { // the first place behind which they are all there are
			if len(side) == 0 || side[place+1] {
				return l, place, false
			}
		}
	}
	for i, e := range entries {
		place := at + 1 + i
		if r.stands(place) && r.entries[place].Term == e.Term {
			continue
		}
		for behind := place; r.stands(behind); behind++ {
			delete(r.entries, behind)
		}
		for k, e := range entries[i:] {
			r.entries[place+k] = e
		}
		break
	}
	return r.log(), at + len(entries), true
}

// wordedCompact is 13.6.
func wordedCompact(l api.Log, at int) (api.Log, api.Errno) {
	r := rowOf(l)
	if !r.stands(at) {
		return api.Log{}, api.ErrRange
	}
	r.base = at
	return r.log(), api.OK
}

// wordedReset is 13.7.
func wordedReset(l api.Log, at, term int) api.Log {
	r := rowOf(l)
	if r.stands(at) && r.entries[at].Term == term {
		l, _ = wordedCompact(l, at)
		return l
	}
	return api.Log{Base: at, BaseTerm: term}
}

// rising is all lists of terms from least to greatest, none below the one ahead of it, of n at most.
func rising(n, least, greatest int) [][]int {
	list := [][]int{nil}
	for from := 0; n > 0; n-- {
		upto := len(list)
		for _, terms := range list[from:upto] {
			first := least
			if len(terms) > 0 {
				first = terms[len(terms)-1]
			}
			for term := first; term <= greatest; term++ {
				list = append(list, append(slices.Clone(terms), term))
			}
		}
		from = upto
	}
	return list
}

// everySmall is all logs with Base up to 2, terms up to 3, and up to 4 entries.
func everySmall() []api.Log {
	var list []api.Log
	for base := range 3 {
		for baseTerm := range 4 {
			if (base == 0) != (baseTerm == 0) {
				continue
			}
			for _, terms := range rising(4, max(baseTerm, 1), 3) {
				list = append(list, log(base, baseTerm, terms...))
			}
		}
	}
	return list
}

func TestEverySmallOfOnePlace(t *testing.T) {
	for _, l := range everySmall() {
		r := rowOf(l)
		wantCheck(t, l, api.OK)
		wantCopy(t, l)
		wantLast(t, l, r.last(), r.entries[r.last()].Term)
		for at := -2; at < 10; at++ {
			if e := r.entries[at]; r.stands(at) {
				wantTerm(t, l, at, e.Term)
				want, _ := wordedCompact(l, at)
				wantCompact(t, l, at, want)
			} else {
				wantNoTerm(t, l, at)
				wantNoCompact(t, l, at)
			}
			for n := -1; n < 7; n++ {
				wantFrom(t, l, at, n, wordedFrom(l, at, n))
			}
			for term := range 6 {
				last := r.entries[r.last()].Term
				wantNewer(t, l, term, at, !(term < last || term == last && at < r.last()))
				wantReset(t, l, at, term, wordedReset(l, at, term))
				if term > 0 {
					wantBehind(t, l, entry(term, "new"), of(l.Base, l.BaseTerm, append(copiedEntries(l.Entries), entry(term, "new"))))
				}
			}
		}
	}
}

// What is put to a log leaves one that may be, if what is left of it behind Base may stand there.
func TestEverySmallPut(t *testing.T) {
	told := map[bool]int{}
	for _, l := range everySmall() {
		for at := range 9 {
			for term := range 5 {
				for _, terms := range rising(3, max(term, 1), 4) {
					entries := come(terms...)
					want, place, fits := wordedPut(l, at, term, entries)
					wantPut(t, l, at, term, entries, want, place, fits)
					left := entries[min(max(l.Base-at, 0), len(entries)):]
					if len(left) == 0 || left[0].Term >= l.BaseTerm {
						wantCheck(t, want, api.OK)
					}
					told[fits]++
				}
			}
		}
		if t.Failed() {
			return
		}
	}
	if told[true] < 10000 || told[false] < 10000 {
		t.Errorf("%v", told)
	}
}

func TestEverySmallSame(t *testing.T) {
	list := everySmall()
	for i, a := range list {
		for k, b := range list {
			wantSame(t, a, b, i == k)
		}
	}
}

// chance is numbers that look like it, the same in every run.
type chance struct{ at uint64 }

func dice(seed uint64) *chance { return &chance{at: seed*6364136223846793005 + 1442695040888963407} }

func (c *chance) next(n int) int {
	c.at = c.at*6364136223846793005 + 1442695040888963407
	return int(c.at >> 33 % uint64(n))
}

// number is one that is often at an edge.
func (c *chance) number() int {
	edges := []int{-1, 0, 1, 2, most - 1, most, most + 1}
	if c.next(3) == 0 {
		return edges[c.next(len(edges))]
	}
	return c.next(12)
}

// terms is so many terms, each at least as great as the one ahead.
func (c *chance) terms(n, least int) []int {
	var list []int
	for range n {
		if c.next(3) == 0 {
			least += c.next(3)
		}
		list = append(list, least)
	}
	return list
}

// log is one that may be, of up to n entries.
func (c *chance) log(n int) api.Log {
	base, term := 0, 0
	if c.next(4) > 0 {
		base, term = 1+c.next(20), 1+c.next(5)
	}
	if c.next(10) == 0 && base > 0 {
		base = most - c.next(3)
	}
	return log(base, term, c.terms(c.next(n+1), max(term, 1))...)
}

func TestCheckAgainstWorded(t *testing.T) {
	told := map[api.Errno]int{}
	for seed := range 20000 {
		c := dice(uint64(seed))
		l := c.log(8)
		for range c.next(3) {
			switch c.next(4) {
			case 0:
				l.Base = c.number()
			case 1:
				l.BaseTerm = c.number()
			default:
				if len(l.Entries) > 0 {
					l.Entries[c.next(len(l.Entries))].Term = c.number()
				}
			}
		}
		want := wordedCheck(l)
		wantCheck(t, l, want)
		told[want]++
	}
	if told[api.OK] < 2000 || told[api.ErrArg] < 2000 {
		t.Errorf("%v", told)
	}
}

func TestPutAgainstWorded(t *testing.T) {
	told := map[string]int{}
	for seed := range 20000 {
		c := dice(uint64(seed))
		l := c.log(30)
		at := max(0, l.Base-5+c.next(len(l.Entries)+10))
		term, found := Term(l, at)
		if !found || c.next(4) == 0 {
			term = c.next(12)
		}
		terms := c.terms(c.next(20), max(term, 1))
		if i := at - l.Base; found && i >= 0 && c.next(3) > 0 { // such as stand there, up to somewhere
			terms = nil
			for _, e := range l.Entries[i : i+c.next(len(l.Entries)-i+1)] {
				terms = append(terms, e.Term)
			}
			least := max(term, 1)
			if len(terms) > 0 {
				least = max(least, terms[len(terms)-1])
			}
			terms = append(terms, c.terms(c.next(10), least)...)
		}
		entries := come(terms...)
		want, place, fits := wordedPut(l, at, term, entries)
		wantPut(t, l, at, term, entries, want, place, fits)
		told[strconv.FormatBool(fits)+strconv.FormatBool(equal(l, want))]++
	}
	for _, what := range []string{"truetrue", "truefalse", "falsetrue"} {
		if told[what] < 1000 {
			t.Errorf("%s: %d", what, told[what])
		}
	}
}

func TestOthersAgainstWorded(t *testing.T) {
	for seed := range 5000 {
		c := dice(uint64(seed))
		l := c.log(30)
		at := l.Base - 2 + c.next(len(l.Entries)+5)
		n := c.next(len(l.Entries)+5) - 1
		wantFrom(t, l, at, n, wordedFrom(l, at, n))
		want, err := wordedCompact(l, at)
		if err == api.OK {
			wantCompact(t, l, at, want)
		} else {
			wantNoCompact(t, l, at)
		}
		term, _ := Term(l, at)
		term += c.next(2)
		wantReset(t, l, at, term, wordedReset(l, at, term))
	}
}

// What a call answers hangs on its arguments, on no call ahead of it, nor on others at the same time.
func TestCallsDoNotHangOnOthers(t *testing.T) {
	l, entries := of(4, 1, stood(1, 1, 2, 3)), come(2, 3, 3, 3)
	want := answers(l, entries)
	done := make(chan map[string][]api.Entry)
	for range 8 {
		go func() {
			for range 20 {
				answers(log(0, 0, 1, 5, 5), come(1, 1, 1, 1))
				answers(l, entries)
			}
			done <- answers(l, entries)
		}()
	}
	for range 8 {
		for what, list := range <-done {
			if !equalEntries(list, want[what]) {
				t.Errorf("%s: %v, want %v", what, list, want[what])
			}
		}
	}
}
