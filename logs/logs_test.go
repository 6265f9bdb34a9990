package logs

import (
	"math"
	"reflect"
	"slices"
	"strconv"
	"testing"
	"unsafe"

	"funicular/api"
)

// most is MaxIndex, by the number that the document gives it.
const most = 1 << 40

// entry is one with bytes of its own, by which it is told from others of its term.
func entry(term int, data string) api.Entry { return api.Entry{Term: term, Data: []byte(data)} }

// stood is entries of those terms, each with bytes that tell its place among them, and that it stood there ahead of a call.
func stood(terms ...int) []api.Entry { return marked("stood ", terms) }

// come is entries of those terms that are told from those that stood.
func come(terms ...int) []api.Entry { return marked("come ", terms) }

func marked(mark string, terms []int) []api.Entry {
	var list []api.Entry
	for i, term := range terms {
		list = append(list, entry(term, mark+strconv.Itoa(i)))
	}
	return list
}

// log is one with entries of those terms.
func log(base, baseTerm int, terms ...int) api.Log { return of(base, baseTerm, stood(terms...)) }

func of(base, baseTerm int, entries []api.Entry) api.Log {
	return api.Log{Base: base, BaseTerm: baseTerm, Entries: entries}
}

// example is the chapter's.
func example() api.Log { return log(2, 1, 1, 2) }

// copiedEntries is entries of their own memory, lists without elements being nil.
func copiedEntries(entries []api.Entry) []api.Entry {
	var list []api.Entry
	for _, e := range entries {
		var data []byte
		for _, b := range e.Data {
			data = append(data, b)
		}
		list = append(list, api.Entry{Term: e.Term, Data: data})
	}
	return list
}

func copied(l api.Log) api.Log { return of(l.Base, l.BaseTerm, copiedEntries(l.Entries)) }

// equal holds logs against each other by what the library says.
func equal(a, b api.Log) bool { return reflect.DeepEqual(copied(a), copied(b)) }

func equalEntries(a, b []api.Entry) bool {
	return reflect.DeepEqual(copiedEntries(a), copiedEntries(b))
}

// brief is what may be told of a log: where it begins, and its entries' terms and bytes; the greatest ones are too long.
func brief(l api.Log) any {
	if len(l.Entries) > 40 {
		return []int{l.Base, l.BaseTerm, len(l.Entries)}
	}
	list := []string{strconv.Itoa(l.Base) + ":" + strconv.Itoa(l.BaseTerm)}
	for _, e := range l.Entries {
		list = append(list, strconv.Itoa(e.Term)+" "+string(e.Data))
	}
	return list
}

// unchanged fails the test at its end, if a log is another one than it is now.
func unchanged(t *testing.T, l api.Log) func() {
	t.Helper()
	was := copied(l)
	return func() {
		t.Helper()
		if !equal(l, was) {
			t.Errorf("%v was changed to %v", brief(was), brief(l))
		}
	}
}

func wantCheck(t *testing.T, l api.Log, want api.Errno) {
	t.Helper()
	defer unchanged(t, l)()
	if err := Check(l); err != want {
		t.Errorf("Check(%v) = %d, want %d", brief(l), err, want)
	}
}

// wantLast fails the test, if a log's last entry is said to stand elsewhere, or to have another term.
func wantLast(t *testing.T, l api.Log, at, term int) {
	t.Helper()
	defer unchanged(t, l)()
	if got := Last(l); got != at {
		t.Errorf("Last(%v) = %d, want %d", brief(l), got, at)
	}
	if got := LastTerm(l); got != term {
		t.Errorf("LastTerm(%v) = %d, want %d", brief(l), got, term)
	}
}

func wantTerm(t *testing.T, l api.Log, at, want int) {
	t.Helper()
	defer unchanged(t, l)()
	if term, found := Term(l, at); term != want || !found {
		t.Errorf("Term(%v, %d) = %d, %v, want %d, true", brief(l), at, term, found, want)
	}
}

func wantNoTerm(t *testing.T, l api.Log, at int) {
	t.Helper()
	defer unchanged(t, l)()
	if term, found := Term(l, at); term != 0 || found {
		t.Errorf("Term(%v, %d) = %d, %v, want 0, false", brief(l), at, term, found)
	}
}

func wantFrom(t *testing.T, l api.Log, at, most int, want []api.Entry) {
	t.Helper()
	defer unchanged(t, l)()
	if got := From(l, at, most); !equalEntries(got, want) {
		t.Errorf("From(%v, %d, %d) = %v, want %v", brief(l), at, most, brief(of(0, 0, got)), brief(of(0, 0, want)))
	}
}

func wantNewer(t *testing.T, l api.Log, term, at int, want bool) {
	t.Helper()
	defer unchanged(t, l)()
	if got := Newer(l, term, at); got != want {
		t.Errorf("Newer(%v, %d, %d) = %v", brief(l), term, at, got)
	}
}

func wantBehind(t *testing.T, l api.Log, e api.Entry, want api.Log) {
	t.Helper()
	defer unchanged(t, l)()
	defer unchanged(t, of(0, 0, []api.Entry{e}))()
	if got := Behind(l, e); !equal(got, want) {
		t.Errorf("Behind(%v, %d %s) = %v, want %v", brief(l), e.Term, e.Data, brief(got), brief(want))
	}
}

func wantPut(t *testing.T, l api.Log, at, term int, entries []api.Entry, want api.Log, place int, fits bool) {
	t.Helper()
	defer unchanged(t, l)()
	defer unchanged(t, of(0, 0, entries))()
	got, n, ok := Put(l, at, term, entries)
	if !equal(got, want) || n != place || ok != fits {
		t.Errorf("Put(%v, %d, %d, %v) = %v, %d, %v, want %v, %d, %v",
			brief(l), at, term, brief(of(0, 0, entries)), brief(got), n, ok, brief(want), place, fits)
	}
}

func wantCompact(t *testing.T, l api.Log, at int, want api.Log) {
	t.Helper()
	defer unchanged(t, l)()
	if got, err := Compact(l, at); !equal(got, want) || err != api.OK {
		t.Errorf("Compact(%v, %d) = %v, %d, want %v, 0", brief(l), at, brief(got), err, brief(want))
	}
}

func wantNoCompact(t *testing.T, l api.Log, at int) {
	t.Helper()
	defer unchanged(t, l)()
	if got, err := Compact(l, at); !equal(got, api.Log{}) || err != api.ErrRange {
		t.Errorf("Compact(%v, %d) = %v, %d, want nothing, 2", brief(l), at, brief(got), err)
	}
}

func wantReset(t *testing.T, l api.Log, at, term int, want api.Log) {
	t.Helper()
	defer unchanged(t, l)()
	if got := Reset(l, at, term); !equal(got, want) {
		t.Errorf("Reset(%v, %d, %d) = %v, want %v", brief(l), at, term, brief(got), brief(want))
	}
}

// wantSame fails the test, if two logs are said to be the same, or not, against what is wanted, whichever comes first.
func wantSame(t *testing.T, a, b api.Log, want bool) {
	t.Helper()
	defer unchanged(t, a)()
	defer unchanged(t, b)()
	if Same(a, b) != want || Same(b, a) != want {
		t.Errorf("Same(%v, %v) = %v, turned %v", brief(a), brief(b), Same(a, b), Same(b, a))
	}
}

func wantCopy(t *testing.T, l api.Log) {
	t.Helper()
	defer unchanged(t, l)()
	if got := Copy(l); !equal(got, l) {
		t.Errorf("Copy(%v) = %v", brief(l), brief(got))
	}
}

func TestExample(t *testing.T) {
	three := come(3, 3)
	wantPut(t, example(), 3, 1, three, of(2, 1, append(stood(1), three...)), 5, true)
	wantPut(t, example(), 4, 3, nil, example(), 3, false)
}

// 13.1: which logs may be

func TestCheckOfWhatMayBe(t *testing.T) {
	for _, l := range []api.Log{
		{}, {Entries: []api.Entry{}}, example(),
		log(0, 0, 1), log(0, 0, most), log(0, 0, 1, most), log(0, 0, 1, 1, 2, 5, 5),
		log(1, 1), log(most, 1), log(1, most), log(most, most), log(most-1, most-1),
		log(1, 1, 1), log(7, 3, 3, 3, 4), log(7, 3, most, most), log(most, most, most), log(most, 1, 1, 1),
		of(0, 0, []api.Entry{{Term: 1}, {Term: 1, Data: []byte{}}, {Term: 2, Data: make([]byte, 1<<17)}}),
	} {
		wantCheck(t, l, api.OK)
	}
}

func TestCheckOfBases(t *testing.T) {
	good := []int{1, 2, most - 1, most}
	bad := []int{-1, -2, -most, math.MinInt, most + 1, 2 * most, math.MaxInt}
	for _, n := range good {
		for _, m := range good {
			wantCheck(t, log(n, m), api.OK)
			wantCheck(t, log(n, m, most), api.OK)
		}
		for _, m := range append(bad, 0) {
			wantCheck(t, log(n, m), api.ErrArg)
			wantCheck(t, log(m, n), api.ErrArg)
			wantCheck(t, log(n, m, most), api.ErrArg)
			wantCheck(t, log(m, n, most), api.ErrArg)
		}
	}
	for _, n := range bad {
		wantCheck(t, log(n, n), api.ErrArg)
		wantCheck(t, log(n, 0), api.ErrArg)
		wantCheck(t, log(0, n), api.ErrArg)
	}
}

func TestCheckOfTerms(t *testing.T) {
	for _, bad := range []int{0, -1, -most, math.MinInt, most + 1, math.MaxInt} {
		wantCheck(t, log(0, 0, bad), api.ErrArg)
		wantCheck(t, log(0, 0, 1, bad), api.ErrArg)
		wantCheck(t, log(0, 0, bad, most), api.ErrArg)
		wantCheck(t, log(1, 1, bad), api.ErrArg)
		wantCheck(t, log(1, 1, 1, 2, bad), api.ErrArg)
		wantCheck(t, log(most, most, bad), api.ErrArg)
	}
}

func TestCheckOfTheOrder(t *testing.T) {
	wantCheck(t, log(4, 3, 2), api.ErrArg)
	wantCheck(t, log(4, 3, 1), api.ErrArg)
	wantCheck(t, log(4, 3, 2, 3), api.ErrArg)
	wantCheck(t, log(4, 3, 3, 2), api.ErrArg)
	wantCheck(t, log(4, most, most-1), api.ErrArg)
	wantCheck(t, log(0, 0, 2, 1), api.ErrArg)
	wantCheck(t, log(0, 0, most, most-1), api.ErrArg)
	for i := range 20 { // one alone that is below the one ahead of it, at each place
		l := log(5, 1, slices.Repeat([]int{4}, 20)...)
		wantCheck(t, l, api.OK)
		l.Entries[i].Term = 5
		want := api.ErrArg
		if i == 19 {
			want = api.OK
		}
		wantCheck(t, l, want)
	}
}

// 13.2: where a log's last entry stands, and which term one has

func TestLast(t *testing.T) {
	wantLast(t, api.Log{}, 0, 0)
	wantLast(t, api.Log{Entries: []api.Entry{}}, 0, 0)
	wantLast(t, log(0, 0, 3), 1, 3)
	wantLast(t, log(0, 0, 1, 1, 4), 3, 4)
	wantLast(t, log(1, 1), 1, 1)
	wantLast(t, log(9, 4), 9, 4)
	wantLast(t, example(), 4, 2)
	wantLast(t, log(9, 4, 5), 10, 5)
	wantLast(t, log(most, most), most, most)
	wantLast(t, log(most, most, most), most+1, most)
	wantLast(t, log(1, 1, slices.Repeat([]int{2}, 5000)...), 5001, 2)
}

// far is places that no log of the tests reaches.
func far() []int {
	return []int{math.MinInt, math.MinInt + 1, -most, -2, -1, 2 * most, math.MaxInt - 1, math.MaxInt}
}

// wantTerms fails the test, if a log has other terms than these from its Base on, or any elsewhere.
func wantTerms(t *testing.T, l api.Log, terms ...int) {
	t.Helper()
	for i, term := range terms {
		wantTerm(t, l, l.Base+i, term)
	}
	for i := 1; i <= 3; i++ {
		wantNoTerm(t, l, l.Base-i)
		wantNoTerm(t, l, l.Base+len(terms)+i-1)
	}
	for _, at := range far() {
		wantNoTerm(t, l, at)
	}
}

func TestTerm(t *testing.T) {
	wantTerms(t, api.Log{}, 0)
	wantTerms(t, log(0, 0, 1), 0, 1)
	wantTerms(t, log(0, 0, 1, 1, 4), 0, 1, 1, 4)
	wantTerms(t, log(9, 4), 4)
	wantTerms(t, log(9, 4, 4, 5), 4, 4, 5)
	wantTerms(t, example(), 1, 1, 2)
	wantTerms(t, log(most, most, most), most, most)
	wantTerms(t, log(1, most), most)
	wantNoTerm(t, log(9, 4, 4, 5), 0)
	wantNoTerm(t, log(9, 4, 4, 5), 1)
}

// 13.3: entries from a place on

func TestFrom(t *testing.T) {
	for _, base := range []int{0, 1, 7, most} {
		l := log(base, min(base, 1), 1, 1, 2, 3)
		all := stood(1, 1, 2, 3)
		for i := range 4 {
			at, left := base+1+i, 4-i
			for n := 1; n <= 4; n++ {
				wantFrom(t, l, at, n, all[i:i+min(n, left)])
			}
			for _, n := range []int{5, 6, most, math.MaxInt - 1, math.MaxInt} {
				wantFrom(t, l, at, n, all[i:])
			}
			for _, n := range []int{0, -1, -2, -4, math.MinInt, math.MinInt + 1} {
				wantFrom(t, l, at, n, nil)
			}
		}
	}
}

func TestFromWhereNothingIs(t *testing.T) {
	for _, l := range []api.Log{{}, log(0, 0, 1, 2), log(7, 2), log(7, 2, 2, 3, 3), log(most, most, most)} {
		for _, n := range []int{math.MinInt, -1, 0, 1, 2, 100, math.MaxInt} {
			for _, at := range append(far(), l.Base, l.Base-1, l.Base-2, Last(l)+1, Last(l)+2) {
				wantFrom(t, l, at, n, nil)
			}
		}
	}
}

// 13.4: which log is newer

func TestNewer(t *testing.T) {
	for _, l := range []api.Log{{}, log(0, 0, 1, 2), log(7, 3), log(7, 2, 2, 3, 3), log(most, most), log(most, most, most)} {
		at, term := Last(l), LastTerm(l)
		for _, d := range []int{1, 2, 100} {
			for _, place := range []int{0, 1, at - 1, at, at + 1, math.MaxInt, -1, math.MinInt} {
				wantNewer(t, l, term+d, place, true)
				wantNewer(t, l, term-d, place, false)
			}
			wantNewer(t, l, term, at+d, true)
			wantNewer(t, l, term, at-d, false)
		}
		wantNewer(t, l, term, at, true)
		wantNewer(t, l, term, math.MaxInt, true)
		wantNewer(t, l, term, math.MinInt, false)
		wantNewer(t, l, math.MaxInt, 0, true)
		wantNewer(t, l, math.MinInt, math.MaxInt, false)
	}
	wantNewer(t, api.Log{}, 0, 0, true)
	wantNewer(t, log(4, 2), 2, 4, true)
	wantNewer(t, log(4, 2), 2, 3, false)
}

// The last entry says which is newer, not where the log begins.
func TestNewerAgainstTheLastEntry(t *testing.T) {
	wantNewer(t, log(4, 2, 3), 2, 9, false)
	wantNewer(t, log(4, 2, 3), 3, 4, false)
	wantNewer(t, log(4, 2, 3), 3, 5, true)
	wantNewer(t, log(0, 0, 1), 0, 9, false)
}

// 13.5: an entry behind the last one

func TestBehind(t *testing.T) {
	wantBehind(t, api.Log{}, entry(1, "x"), of(0, 0, []api.Entry{entry(1, "x")}))
	wantBehind(t, log(7, 2), entry(2, "x"), of(7, 2, []api.Entry{entry(2, "x")}))
	wantBehind(t, example(), entry(2, "x"), of(2, 1, append(stood(1, 2), entry(2, "x"))))
	wantBehind(t, example(), entry(5, ""), of(2, 1, append(stood(1, 2), entry(5, ""))))
	wantBehind(t, example(), api.Entry{Term: most}, of(2, 1, append(stood(1, 2), entry(most, ""))))
	wantBehind(t, log(most, most), entry(most, "x"), of(most, most, []api.Entry{entry(most, "x")}))
}

func TestBehindOneByOne(t *testing.T) {
	var l api.Log
	for i := range 300 {
		was := l
		l = Behind(l, entry(1+i/7, strconv.Itoa(i)))
		wantLast(t, l, i+1, 1+i/7)
		wantLast(t, was, i, (i+6)/7)
	}
	for i, e := range l.Entries {
		if e.Term != 1+i/7 || string(e.Data) != strconv.Itoa(i) {
			t.Errorf("entry %d: %v", i, e)
		}
	}
	wantCheck(t, l, api.OK)
}

// 13.5: Put ahead of Base

func TestPutAheadOfBaseOfTooFew(t *testing.T) {
	for _, l := range []api.Log{log(4, 2), log(4, 2, 2, 3)} {
		for at := range 4 {
			for n := range 4 - at {
				for _, term := range []int{0, 1, 2, 3} { // the term is not looked at, nor are theirs
					wantPut(t, l, at, term, come(slices.Repeat([]int{max(term, 1)}, n)...), l, 4, true)
					wantPut(t, l, at, term, come(slices.Repeat([]int{9}, n)...), l, 4, true)
				}
			}
		}
	}
	wantPut(t, log(most, 3, 4), 0, 0, come(1, 2, 3), log(most, 3, 4), most, true)
	wantPut(t, log(most, 3, 4), most-1, 3, nil, log(most, 3, 4), most, true)
}

func TestPutAheadOfBaseOfJustAsMany(t *testing.T) {
	for _, l := range []api.Log{log(4, 2), log(4, 2, 2, 3)} {
		for at := range 4 {
			for _, term := range []int{0, 1, 2, 3} {
				wantPut(t, l, at, term, come(slices.Repeat([]int{max(term, 2)}, 4-at)...), l, 4, true)
			}
		}
	}
}

func TestPutAheadOfBaseOfMore(t *testing.T) {
	l := log(4, 2, 2, 3)
	for at := range 4 {
		up := slices.Repeat([]int{2}, 4-at)
		for _, term := range []int{0, 1, 2} {
			// What stands there already stays as it is.
			wantPut(t, l, at, term, come(append(up, 2)...), l, 5, true)
			wantPut(t, l, at, term, come(append(up, 2, 3)...), l, 6, true)
			// One behind.
			more := come(append(up, 2, 3, 3)...)
			wantPut(t, l, at, term, more, of(4, 2, append(stood(2, 3), more[len(more)-1:]...)), 7, true)
			// Another term at Last, and ahead of it.
			more = come(append(up, 2, 4)...)
			wantPut(t, l, at, term, more, of(4, 2, append(stood(2), more[len(more)-1:]...)), 6, true)
			more = come(append(up, 3)...)
			wantPut(t, l, at, term, more, of(4, 2, more[len(more)-1:]), 5, true)
			// No entries stood there.
			wantPut(t, log(4, 2), at, term, more, of(4, 2, more[len(more)-1:]), 5, true)
		}
	}
}

// What a snapshot stands for is not looked at: terms up to Base may be others than those that stood there.
func TestPutAheadOfBaseOfOtherTerms(t *testing.T) {
	more := come(3, 3, 3)
	wantPut(t, log(2, 2, 2), 0, 3, more, of(2, 2, more[2:]), 3, true)
	wantPut(t, log(2, 2, 2), 1, 3, more, of(2, 2, more[1:]), 4, true)
}

// 13.5: Put where it does not fit

func TestPutBehindLast(t *testing.T) {
	for _, l := range []api.Log{{}, log(0, 0, 1, 2), log(4, 2), log(4, 2, 2, 3), log(most, most, most)} {
		for _, at := range []int{Last(l) + 1, Last(l) + 2, 2 * most, math.MaxInt - 1, math.MaxInt} {
			for _, term := range []int{0, 1, LastTerm(l), LastTerm(l) + 1} {
				wantPut(t, l, at, term, nil, l, Last(l), false)
				wantPut(t, l, at, term, come(most), l, Last(l), false)
			}
		}
	}
}

func TestPutWhereAnotherTermIs(t *testing.T) {
	l := log(4, 2, 2, 2, 3, 5, 5, 5, 6)
	// Place by place: the one ahead of all of its term.
	ahead := map[int]int{4: 4, 5: 4, 6: 4, 7: 6, 8: 7, 9: 7, 10: 7, 11: 10}
	for at, want := range ahead {
		has, _ := Term(l, at)
		for _, term := range []int{0, 1, 2, 3, 4, 5, 6, 7, most} {
			if term == has {
				continue
			}
			wantPut(t, l, at, term, nil, l, want, false)
			wantPut(t, l, at, term, come(most, most), l, want, false)
			wantPut(t, l, at, term, come(max(term, 1)), l, want, false)
		}
	}
}

func TestPutWhereAnotherTermIsUpToBase(t *testing.T) {
	wantPut(t, log(0, 0, 1, 1, 1), 3, 2, come(2), log(0, 0, 1, 1, 1), 0, false)
	wantPut(t, log(0, 0, 1, 1, 1), 1, 2, come(2), log(0, 0, 1, 1, 1), 0, false)
	wantPut(t, log(6, 3, 4, 4), 8, 5, come(5), log(6, 3, 4, 4), 6, false)
	wantPut(t, log(6, 4, 4, 4), 8, 5, come(5), log(6, 4, 4, 4), 6, false)
	wantPut(t, log(0, 0, 1), 0, 2, come(2), log(0, 0, 1), 0, false)
	wantPut(t, api.Log{}, 0, 1, come(1), api.Log{}, 0, false)
	wantPut(t, log(6, 4), 6, 3, come(5), log(6, 4), 6, false)
	wantPut(t, log(6, 4), 6, 5, nil, log(6, 4), 6, false)
}

// 13.5: Put where it fits

func TestPutOfNone(t *testing.T) {
	for _, l := range []api.Log{{}, log(0, 0, 1, 2), log(4, 2), log(4, 2, 2, 3)} {
		for at := l.Base; at <= Last(l); at++ {
			term, _ := Term(l, at)
			wantPut(t, l, at, term, nil, l, at, true)
			wantPut(t, l, at, term, []api.Entry{}, l, at, true)
		}
	}
}

func TestPutOfSuchAsStandThere(t *testing.T) {
	terms := []int{2, 2, 3, 5, 5}
	for _, base := range []int{0, 4, most} {
		l := log(base, min(base, 2), terms...)
		for i := range 6 {
			term, _ := Term(l, base+i)
			for k := i; k <= 5; k++ { // also where more stand there behind them
				wantPut(t, l, base+i, term, come(terms[i:k]...), l, base+k, true)
			}
		}
	}
}

func TestPutOfSomeThatStandThereAndMore(t *testing.T) {
	terms := []int{2, 2, 3}
	for _, base := range []int{0, 4, most} {
		l := log(base, min(base, 2), terms...)
		for i := range 4 {
			term, _ := Term(l, base+i)
			for n := 1; n < 4; n++ {
				more := come(append(slices.Clone(terms[i:]), slices.Repeat([]int{3}, n)...)...)
				want := of(base, min(base, 2), append(stood(terms...), more[3-i:]...))
				wantPut(t, l, base+i, term, more, want, base+3+n, true)
			}
		}
	}
}

func TestPutOfOneOfAnotherTermInTheMidst(t *testing.T) {
	terms := []int{2, 2, 3, 3, 3}
	for _, base := range []int{0, 4, most} {
		l := log(base, min(base, 2), terms...)
		for i := range 5 {
			term, _ := Term(l, base+i)
			for k := i; k < 5; k++ {
				for n := 1; n < 8; n++ { // fewer than stood there, as many, and more
					more := come(append(slices.Clone(terms[i:k]), slices.Repeat([]int{4}, n)...)...)
					want := of(base, min(base, 2), append(stood(terms[:k]...), more[k-i:]...))
					wantPut(t, l, base+i, term, more, want, base+k+n, true)
				}
			}
		}
	}
}

// From the first one on that has another term all are new, also such as would have the term of what stood there.
func TestPutOfOneOfAnotherTermAheadOfLikeOnes(t *testing.T) {
	more := come(1, 2, 3, 3)
	wantPut(t, log(0, 0, 1, 1, 3, 3), 0, 0, more, of(0, 0, append(stood(1), more[1:]...)), 4, true)
	// Of a term below what stood there.
	wantPut(t, log(0, 0, 1, 3, 3, 3), 0, 0, more, of(0, 0, append(stood(1), more[1:]...)), 4, true)
	wantPut(t, log(0, 0, 1, 3, 3, 3), 1, 1, come(1), of(0, 0, append(stood(1), come(1)...)), 2, true)
}

func TestPutOnNothing(t *testing.T) {
	wantPut(t, api.Log{}, 0, 0, come(1, 1, 2), of(0, 0, come(1, 1, 2)), 3, true)
	wantPut(t, log(4, 2), 4, 2, come(2, 3), of(4, 2, come(2, 3)), 6, true)
	wantPut(t, log(most, most), most, most, come(most), of(most, most, come(most)), most+1, true)
}

// 13.6: a log without what a snapshot stands for

func TestCompact(t *testing.T) {
	terms := []int{2, 2, 3, 5}
	for _, base := range []int{0, 4, most} {
		l := log(base, min(base, 2), terms...)
		wantCompact(t, l, base, l)
		for i := 1; i <= 4; i++ {
			wantCompact(t, l, base+i, of(base+i, terms[i-1], stood(terms...)[i:]))
		}
	}
	wantCompact(t, api.Log{}, 0, api.Log{})
	wantCompact(t, log(4, 2), 4, log(4, 2))
	wantCompact(t, example(), 3, of(3, 1, stood(1, 2)[1:]))
}

func TestCompactWhereNothingIs(t *testing.T) {
	for _, l := range []api.Log{{}, log(0, 0, 1, 2), log(4, 2), log(4, 2, 2, 3), log(most, most, most)} {
		for _, at := range append(far(), l.Base-1, l.Base-2, Last(l)+1, Last(l)+2) {
			wantNoCompact(t, l, at)
		}
	}
	wantNoCompact(t, log(4, 2, 2, 3), 0)
}

// 13.7: a log behind a snapshot

func TestResetWhereItFits(t *testing.T) {
	terms := []int{2, 2, 3, 5}
	for _, base := range []int{0, 4, most} {
		l := log(base, min(base, 2), terms...)
		wantReset(t, l, base, min(base, 2), l)
		for i := 1; i <= 4; i++ {
			wantReset(t, l, base+i, terms[i-1], of(base+i, terms[i-1], stood(terms...)[i:]))
		}
	}
	wantReset(t, api.Log{}, 0, 0, api.Log{})
	wantReset(t, log(4, 2), 4, 2, log(4, 2))
}

func TestResetWhereAnotherTermIs(t *testing.T) {
	l := log(4, 2, 2, 3, 3, 5)
	for at := 4; at <= 8; at++ {
		has, _ := Term(l, at)
		for _, term := range []int{1, 2, 3, 4, 5, 6, most} {
			if term != has {
				wantReset(t, l, at, term, log(at, term))
			}
		}
	}
	wantReset(t, log(0, 0, 1, 1), 1, 2, log(1, 2))
}

func TestResetWhereNoEntryIs(t *testing.T) {
	for _, l := range []api.Log{{}, log(0, 0, 1, 2), log(4, 2), log(4, 2, 2, 3)} {
		for _, at := range []int{Last(l) + 1, Last(l) + 2, most} {
			for _, term := range []int{1, 2, 3, 4, most} {
				wantReset(t, l, at, term, log(at, term))
			}
		}
	}
	for at := 1; at < 4; at++ { // ahead of Base
		for _, term := range []int{1, 2, 3} {
			wantReset(t, log(4, 2, 2, 3), at, term, log(at, term))
		}
	}
	wantReset(t, log(4, 2, 2, 3), 0, 0, api.Log{})
}

// 13.8: logs held against each other, and copied

// turns is an example's log turned in one thing alone, each in another one.
func turns() []api.Log {
	made := func(turn func(l *api.Log)) api.Log {
		l := log(2, 1, 1, 2, 2)
		turn(&l)
		return l
	}
	list := []api.Log{
		made(func(l *api.Log) { l.Base = 3 }),
		made(func(l *api.Log) { l.BaseTerm = 2 }),
		made(func(l *api.Log) { l.Base, l.BaseTerm = 1, 2 }), // as if turned round
		made(func(l *api.Log) { l.Entries = nil }),
		made(func(l *api.Log) { l.Entries = append(l.Entries, entry(2, "")) }),
		made(func(l *api.Log) { l.Entries = append(l.Entries, l.Entries[2]) }),
	}
	for i := range 3 {
		list = append(list,
			made(func(l *api.Log) { l.Entries = slices.Delete(l.Entries, i, i+1) }),
			made(func(l *api.Log) { l.Entries[i].Term++ }),
			made(func(l *api.Log) { l.Entries[i].Data = nil }),
			made(func(l *api.Log) { l.Entries[i].Data = append(l.Entries[i].Data, 0) }),
			made(func(l *api.Log) { l.Entries[i].Data = l.Entries[i].Data[1:] }))
		for k := range stood(1, 2, 2)[i].Data {
			list = append(list,
				made(func(l *api.Log) { l.Entries[i].Data[k] ^= 1 }),
				made(func(l *api.Log) { l.Entries[i].Data[k] ^= 128 }),
				made(func(l *api.Log) { l.Entries[i].Data = l.Entries[i].Data[:k] }))
		}
	}
	return list
}

func TestSame(t *testing.T) {
	for _, l := range append(turns(), api.Log{}, example(), log(4, 2), log(most, most, most)) {
		wantSame(t, l, l, true)
		wantSame(t, l, copied(l), true)
	}
	wantSame(t, api.Log{}, api.Log{Entries: []api.Entry{}}, true)
	wantSame(t, of(2, 1, nil), of(2, 1, []api.Entry{}), true)
	wantSame(t, of(2, 1, []api.Entry{{Term: 1}}), of(2, 1, []api.Entry{{Term: 1, Data: []byte{}}}), true)
}

func TestSameOfOthers(t *testing.T) {
	for _, l := range turns() {
		wantSame(t, log(2, 1, 1, 2, 2), l, false)
	}
	wantSame(t, api.Log{}, log(1, 1), false)
	wantSame(t, api.Log{}, of(0, 0, []api.Entry{{}}), false)
	wantSame(t, log(1, 2), log(2, 1), false)
	wantSame(t, log(1, 1, 1), log(0, 0, 1, 1), false)
	// The same bytes in all, cut elsewhere.
	a := of(0, 0, []api.Entry{entry(1, "ab"), entry(1, "c")})
	b := of(0, 0, []api.Entry{entry(1, "a"), entry(1, "bc")})
	wantSame(t, a, b, false)
}

// odd is logs that may not be.
func odd() []api.Log {
	return []api.Log{
		log(-1, 1), log(1, -1), log(0, 1), log(1, 0), log(most+1, 1), log(1, most+1), log(-1, -1, 1),
		log(0, 0, 0), log(0, 0, -1), log(0, 0, most+1), log(0, 0, 2, 1), log(4, 3, 2), log(4, 3, 3, 2, 5, 4),
		log(math.MinInt, math.MinInt, 1, 2), log(math.MaxInt, math.MaxInt, 2, 1), log(math.MaxInt-1, 1, 1, 1, 1, 1),
		log(math.MinInt, math.MaxInt, math.MinInt, math.MaxInt),
	}
}

func TestWhatMayNotBe(t *testing.T) {
	list := odd()
	for i, l := range list {
		wantCheck(t, l, api.ErrArg)
		wantCopy(t, l)
		for k, other := range odd() {
			wantSame(t, l, other, i == k)
		}
		wantSame(t, l, example(), false)
	}
}

func TestCopy(t *testing.T) {
	for _, l := range append(turns(), api.Log{}, api.Log{Entries: []api.Entry{}}, example(), log(4, 2), log(most, most, most)) {
		wantCopy(t, l)
	}
	wantCopy(t, of(2, 1, []api.Entry{{Term: 1}, {Term: 2, Data: []byte{}}, {Term: 2, Data: make([]byte, 1<<16)}}))
	wantCopy(t, log(0, 0, slices.Repeat([]int{7}, 1<<16)...))
}

// No call panics, or fails to end, whatever it is given.
func TestOfAnything(t *testing.T) {
	numbers := append(far(), 0, 1, 2, 3, 4, 5, most-1, most, most+1)
	lists := [][]api.Entry{nil, come(1), come(0, -1), come(math.MaxInt, math.MinInt, 3), come(slices.Repeat([]int{1}, 9)...)}
	for _, l := range append(odd(), api.Log{}, example(), log(4, 2), log(most, most, most)) {
		was := copied(l)
		Check(l)
		Last(l)
		LastTerm(l)
		Copy(l)
		for _, at := range append(numbers, l.Base, l.Base+1, Last(l), Last(l)+1) {
			Term(l, at)
			Compact(l, at)
			Behind(l, api.Entry{Term: at})
			for _, n := range append(numbers, l.BaseTerm, LastTerm(l)) {
				From(l, at, n)
				Newer(l, n, at)
				Reset(l, at, n)
				for _, entries := range lists {
					Put(l, at, n, entries)
				}
			}
		}
		if !equal(l, was) {
			t.Errorf("%v was changed to %v", brief(was), brief(l))
		}
	}
}

// R3: memory

// memory is where the bytes of entries, and the entries themselves, lie: from where, up to where, with the room behind.
func memory(entries []api.Entry) [][2]uintptr {
	var list [][2]uintptr
	if cap(entries) > 0 {
		from := uintptr(unsafe.Pointer(unsafe.SliceData(entries)))
		list = append(list, [2]uintptr{from, from + uintptr(cap(entries))*unsafe.Sizeof(api.Entry{})})
	}
	for _, e := range entries {
		if cap(e.Data) > 0 {
			from := uintptr(unsafe.Pointer(unsafe.SliceData(e.Data)))
			list = append(list, [2]uintptr{from, from + uintptr(cap(e.Data))})
		}
	}
	return list
}

// wantApart fails the test, if lists of entries share memory with one another, or one with itself.
func wantApart(t *testing.T, what string, lists ...[]api.Entry) {
	t.Helper()
	var all [][2]uintptr
	for _, list := range lists {
		all = append(all, memory(list)...)
	}
	for i, a := range all {
		for _, b := range all[:i] {
			if a[0] < b[1] && b[0] < a[1] {
				t.Errorf("%s: memory is shared", what)
				return
			}
		}
	}
}

// roomy is entries that have others behind their length in the same memory, and bytes behind theirs.
func roomy(entries []api.Entry) []api.Entry {
	var list []api.Entry
	for _, e := range entries {
		list = append(list, api.Entry{Term: e.Term, Data: append(slices.Clone(e.Data), "behind"...)[:len(e.Data)]})
	}
	return append(list, stood(8, 9, 9, 9)...)[:len(entries)]
}

// whole is a list up to the end of its memory, its entries' bytes, too.
func whole(entries []api.Entry) []api.Entry {
	list := slices.Clone(entries[:cap(entries)])
	for i := range list {
		list[i].Data = list[i].Data[:cap(list[i].Data)]
	}
	return copiedEntries(list)
}

// answers is what all calls answer that tell entries, by how they were called; of a log of terms 1, 1, 2, 3 behind 4, and entries of terms 2, 3, 3, 3.
func answers(l api.Log, entries []api.Entry) map[string][]api.Entry {
	list := map[string][]api.Entry{"Copy": Copy(l).Entries, "Behind": Behind(l, entries[0]).Entries}
	for at := 3; at <= 10; at++ {
		place := strconv.Itoa(at)
		list["From "+place] = From(l, at, 9)
		list["From, 1, "+place] = From(l, at, 1)
		compact, _ := Compact(l, at)
		list["Compact "+place] = compact.Entries
		for term := range 5 {
			list["Reset "+place+", "+strconv.Itoa(term)] = Reset(l, at, term).Entries
			for n := range 5 {
				put, _, _ := Put(l, at, term, entries[:n])
				list["Put "+place+", "+strconv.Itoa(term)+", "+strconv.Itoa(n)] = put.Entries
			}
		}
	}
	return list
}

func TestAnswersAreNewMemory(t *testing.T) {
	l := of(4, 1, roomy(stood(1, 1, 2, 3)))
	entries := roomy(come(2, 3, 3, 3))
	wasLog, wasEntries := whole(l.Entries), whole(entries)
	first, again := answers(l, entries), answers(l, entries)
	for what, list := range first {
		wantApart(t, what, list, l.Entries, entries)
		wantApart(t, what+", twice", list, again[what])
		if !equalEntries(list, again[what]) {
			t.Errorf("%s: %v, again %v", what, list, again[what])
		}
	}
	for what, list := range first { // what is told may be written to, up to the end of its memory
		list = list[:cap(list)]
		for i := range list {
			data := list[i].Data[:cap(list[i].Data)]
			for k := range data {
				data[k] = 0xee
			}
			list[i] = api.Entry{Term: -7}
		}
		if !reflect.DeepEqual(whole(l.Entries), wasLog) || !reflect.DeepEqual(whole(entries), wasEntries) {
			t.Fatalf("%s: what was handed in is changed by what is written to the answer", what)
		}
	}
	for what, list := range answers(l, entries) {
		if !equalEntries(list, again[what]) {
			t.Errorf("%s: %v, ahead of writing %v", what, list, again[what])
		}
	}
}

// Behind a log's length, and behind that of an entry's bytes, nothing is read, or handed out.
func TestBehindTheLength(t *testing.T) {
	l, entries := of(4, 1, roomy(stood(1, 1, 2, 3))), roomy(come(2, 3, 3, 3))
	bare, bareEntries := log(4, 1, 1, 1, 2, 3), come(2, 3, 3, 3)
	want := answers(bare, bareEntries)
	for what, list := range answers(l, entries) {
		if !equalEntries(list, want[what]) {
			t.Errorf("%s: %v, want %v", what, list, want[what])
		}
		for _, e := range list[:cap(list)][len(list):] {
			if e.Term != 0 || cap(e.Data) > 0 {
				t.Errorf("%s: behind the answer's length lies %v", what, e)
			}
		}
		for _, e := range list {
			for _, b := range e.Data[:cap(e.Data)][len(e.Data):] {
				if b != 0 {
					t.Errorf("%s: behind an entry's bytes lies %d", what, b)
				}
			}
		}
	}
	wantCheck(t, l, api.OK)
	wantLast(t, l, 8, 3)
	wantNoTerm(t, l, 9)
	wantSame(t, l, bare, true)
	wantNewer(t, l, 3, 8, true)
}

// An entry's bytes may lie in the log's memory, or in those of another one.
func TestEntriesThatShareMemory(t *testing.T) {
	data := []byte("paid")
	l := of(0, 0, []api.Entry{{Term: 1, Data: data}, {Term: 1, Data: data[1:]}})
	wantBehind(t, l, l.Entries[0], of(0, 0, []api.Entry{entry(1, "paid"), entry(1, "aid"), entry(1, "paid")}))
	wantPut(t, l, 2, 1, l.Entries, of(0, 0, []api.Entry{entry(1, "paid"), entry(1, "aid"), entry(1, "paid"), entry(1, "aid")}), 4, true)
	wantApart(t, "Copy", Copy(l).Entries, l.Entries[:1])
	put, _, _ := Put(l, 2, 1, l.Entries)
	wantApart(t, "Put", put.Entries, l.Entries[:1])
}

// What is told without entries is a list without elements, in whatever form the log has none.
func TestListsWithoutElements(t *testing.T) {
	for _, none := range [][]api.Entry{nil, {}, stood(1, 2)[:0]} {
		l := of(4, 2, none)
		wantCheck(t, l, api.OK)
		wantLast(t, l, 4, 2)
		wantCopy(t, l)
		wantSame(t, l, log(4, 2), true)
		wantCompact(t, l, 4, log(4, 2))
		wantReset(t, l, 4, 2, log(4, 2))
		wantReset(t, l, 5, 2, log(5, 2))
		wantPut(t, l, 4, 2, none, log(4, 2), 4, true)
		wantPut(t, l, 3, 2, none, log(4, 2), 4, true)
		wantPut(t, l, 5, 2, none, log(4, 2), 4, false)
		wantFrom(t, l, 5, 9, nil)
		wantBehind(t, l, entry(3, "x"), of(4, 2, []api.Entry{entry(3, "x")}))
	}
}
