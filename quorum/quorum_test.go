package quorum

import (
	"cmp"
	"math"
	"slices"
	"testing"
)

const (
	yes = true
	no  = false
)

// unchanged fails the test at its end, if a list, or what lies behind its length in its memory, is another one than it is now.
func unchanged[T comparable](t *testing.T, l []T) func() {
	t.Helper()
	whole := l[:cap(l)]
	var was []T
	for _, e := range whole {
		was = append(was, e)
	}
	return func() {
		t.Helper()
		for i, e := range was {
			if whole[i] != e {
				t.Fatalf("%v was changed to %v", was, whole)
			}
		}
	}
}

func wantEnough(t *testing.T, n, want int) {
	t.Helper()
	if got := Enough(n); got != want {
		t.Errorf("Enough(%d) = %d, want %d", n, got, want)
	}
}

func wantWon(t *testing.T, l []bool, want bool) {
	t.Helper()
	defer unchanged(t, l)()
	if got := Won(l); got != want {
		t.Errorf("Won(%v) = %v, want %v", l, got, want)
	}
}

func wantReached(t *testing.T, l []int, want int) {
	t.Helper()
	defer unchanged(t, l)()
	if got := Reached(l); got != want {
		t.Errorf("Reached(%v) = %d, want %d", l, got, want)
	}
}

// wantBoth asks it of both orders.
func wantBoth(t *testing.T, a, b []bool, want bool) {
	t.Helper()
	defer unchanged(t, a)()
	defer unchanged(t, b)()
	if got := Both(a, b); got != want {
		t.Errorf("Both(%v, %v) = %v, want %v", a, b, got, want)
	}
	if got := Both(b, a); got != want {
		t.Errorf("Both(%v, %v) = %v, want %v", b, a, got, want)
	}
}

// granted is a list of n of which the first so many grant.
func granted(n, many int) []bool {
	l := make([]bool, n)
	for i := range many {
		l[i] = true
	}
	return l
}

// The chapter's examples

func TestExamples(t *testing.T) {
	wantEnough(t, 3, 2)
	wantEnough(t, 4, 3)
	wantReached(t, []int{5, 2, 9}, 5)
}

// 14.1: Enough

func TestEnough(t *testing.T) {
	for i, want := range []int{0, 1, 2, 2, 3, 3, 4, 4, 5, 5, 6} {
		wantEnough(t, i, want)
	}
	wantEnough(t, 99, 50)
	wantEnough(t, 100, 51)
	wantEnough(t, 1<<31, 1<<30+1)
}

func TestEnoughBelowOne(t *testing.T) {
	for _, n := range []int{0, -1, -2, -3, -4, -100, -1 << 31, math.MinInt + 1, math.MinInt} {
		wantEnough(t, n, 0)
	}
}

func TestEnoughOfTheGreatest(t *testing.T) {
	wantEnough(t, math.MaxInt, math.MaxInt/2+1)
	wantEnough(t, math.MaxInt-1, math.MaxInt/2+1)
	wantEnough(t, math.MaxInt-2, math.MaxInt/2)
}

// 14.2: Won

func TestWonOfNoneAndOne(t *testing.T) {
	wantWon(t, nil, false)
	wantWon(t, []bool{}, false)
	wantWon(t, []bool{no}, false)
	wantWon(t, []bool{yes}, true)
}

func TestWonJustEnough(t *testing.T) {
	wantWon(t, []bool{yes, no}, false) // half of them are not enough
	wantWon(t, []bool{no, yes}, false)
	wantWon(t, []bool{yes, yes}, true)
	wantWon(t, []bool{no, yes, no}, false)
	wantWon(t, []bool{yes, no, yes}, true)
	wantWon(t, []bool{no, yes, yes}, true)
	wantWon(t, []bool{yes, no, no, yes}, false)
	wantWon(t, []bool{yes, yes, no, yes}, true)
	wantWon(t, []bool{yes, no, no, yes, no}, false)
	wantWon(t, []bool{no, yes, no, yes, yes}, true)
}

func TestWonAllAndNobody(t *testing.T) {
	for n := 1; n <= 300; n++ {
		wantWon(t, granted(n, 0), false)
		wantWon(t, granted(n, n), true)
	}
}

func TestWonReadsNothingBehind(t *testing.T) {
	wantWon(t, []bool{no, yes, yes, yes}[:1], false)
	wantWon(t, []bool{yes, no, no, no}[:1], true)
	wantWon(t, []bool{yes, yes, yes}[:0], false)
}

// 14.3: Reached

func TestReachedOfNoneOneTwo(t *testing.T) {
	wantReached(t, nil, 0)
	wantReached(t, []int{}, 0)
	for _, n := range []int{0, 1, -1, 7, -7, math.MaxInt, math.MinInt} {
		wantReached(t, []int{n}, n)
		wantReached(t, []int{n, n}, n)
	}
	wantReached(t, []int{3, 8}, 3)
	wantReached(t, []int{8, 3}, 3)
	wantReached(t, []int{-3, -8}, -8)
	wantReached(t, []int{math.MaxInt, math.MinInt}, math.MinInt)
}

func TestReachedInAnyOrder(t *testing.T) {
	wantReached(t, []int{1, 2, 3}, 2)
	wantReached(t, []int{3, 2, 1}, 2)
	wantReached(t, []int{1, 2, 3, 4}, 2)
	wantReached(t, []int{4, 3, 2, 1}, 2)
	wantReached(t, []int{1, 2, 3, 4, 5}, 3)
	wantReached(t, []int{5, 4, 3, 2, 1}, 3)
	wantReached(t, []int{4, 9, 1, 7}, 4)
	wantReached(t, []int{10, 9, 100, 2, 33}, 10) // as numbers, not as their digits
	wantReached(t, []int{6, 2, 5, 1, 4, 3}, 3)
	wantReached(t, []int{6, 2, 7, 5, 1, 4, 3}, 4)
}

func TestReachedOfTheSame(t *testing.T) {
	wantReached(t, []int{4, 4, 4}, 4)
	wantReached(t, []int{4, 4, 4, 4}, 4)
	wantReached(t, []int{0, 0, 0, 0, 0}, 0)
	wantReached(t, []int{9, 2, 9}, 9)
	wantReached(t, []int{2, 9, 2}, 2)
	wantReached(t, []int{9, 2, 9, 2}, 2)
	wantReached(t, []int{9, 9, 9, 2}, 9)
	wantReached(t, []int{1, 9, 5, 5, 1}, 5)
}

func TestReachedBelowZero(t *testing.T) {
	wantReached(t, []int{-1, -2, -3}, -2)
	wantReached(t, []int{-5, 0, 5}, 0)
	wantReached(t, []int{-5, -6, 5, 6}, -5)
	wantReached(t, []int{-1, -1, 3}, -1)
	wantReached(t, []int{-9, -1, -1, -1}, -1)
}

func TestReachedOfTheGreatestAndTheLeast(t *testing.T) {
	wantReached(t, []int{math.MaxInt, math.MinInt, 0}, 0)
	wantReached(t, []int{math.MaxInt, math.MinInt, math.MaxInt}, math.MaxInt)
	wantReached(t, []int{math.MinInt, math.MaxInt, math.MinInt}, math.MinInt)
	wantReached(t, []int{math.MaxInt, math.MaxInt - 1, math.MinInt, math.MinInt + 1}, math.MinInt+1)
	wantReached(t, []int{math.MaxInt, math.MaxInt - 1, math.MinInt, math.MinInt + 1, math.MaxInt}, math.MaxInt-1)
}

func TestReachedReadsAndWritesNothingBehind(t *testing.T) {
	wantReached(t, []int{5, 2, 9, 9, 9}[:1], 5)
	wantReached(t, []int{9, 8, 7, 1, 1}[:3], 8)
	wantReached(t, []int{7, 6, 5}[:0], 0)
}

// TestHad: the way that the chapter names: what so many have of any ordered type.
func TestHad(t *testing.T) {
	wantHad(t, []string{"paid", "asked", "sent"}, 2, "paid")
	wantHad(t, []string{"b", "", "a", "b"}, 3, "a")
	wantHad(t, []float64{-0.5, 2.25, 0.5}, 2, 0.5)
	wantHad(t, []uint8{255, 0, 128, 127}, 3, 127)
	wantHad(t, []uint64{math.MaxUint64, 1, 1 << 63}, 2, 1<<63)
	wantHad(t, []int{5, 2, 9}, 1, 9)
	wantHad(t, []int{5, 2, 9}, 3, 2)
	wantHad(t, nil, 0, "")
}

func wantHad[T cmp.Ordered](t *testing.T, l []T, many int, want T) {
	t.Helper()
	defer unchanged(t, l)()
	if got := had(l, many); got != want {
		t.Errorf("had(%v, %d) = %v, want %v", l, many, got, want)
	}
}

// 14.4: Both

func TestBothOfOneLength(t *testing.T) {
	wantBoth(t, []bool{yes}, []bool{yes}, true)
	wantBoth(t, []bool{yes}, []bool{no}, false)
	wantBoth(t, []bool{no}, []bool{no}, false)
	wantBoth(t, []bool{yes, no, no}, []bool{yes, no, no}, true) // at the beginning
	wantBoth(t, []bool{no, yes, no}, []bool{no, yes, no}, true) // in the midst
	wantBoth(t, []bool{no, no, yes}, []bool{no, no, yes}, true) // at the end
	wantBoth(t, []bool{yes, yes, no}, []bool{no, yes, yes}, true)
	wantBoth(t, []bool{yes, no, yes}, []bool{no, yes, no}, false) // each somewhere, nowhere both
	wantBoth(t, []bool{no, no, no}, []bool{no, no, no}, false)    // alike is not enough
	wantBoth(t, []bool{yes, yes, yes}, []bool{no, no, no}, false)
}

func TestBothOfDifferentLengths(t *testing.T) {
	wantBoth(t, []bool{yes}, []bool{yes, no, no}, true)
	wantBoth(t, []bool{no, yes}, []bool{no, yes, no}, true)
	wantBoth(t, []bool{no, yes}, []bool{yes, no, yes}, false)
	wantBoth(t, []bool{no, no}, []bool{yes, yes, yes}, false) // what is true lies behind the shorter one's end
	wantBoth(t, []bool{yes, no}, []bool{no, no, yes, yes}, false)
	wantBoth(t, []bool{no, no, yes}, []bool{no, no}, false)
}

func TestBothOfEmptyLists(t *testing.T) {
	wantBoth(t, nil, nil, false)
	wantBoth(t, nil, []bool{}, false)
	wantBoth(t, []bool{}, []bool{}, false)
	wantBoth(t, nil, []bool{yes}, false)
	wantBoth(t, []bool{}, []bool{yes, yes, yes}, false)
}

func TestBothReadsNothingBehind(t *testing.T) {
	all := []bool{yes, yes, yes}
	wantBoth(t, []bool{no, yes, yes}[:1], all, false)
	wantBoth(t, []bool{no, yes, yes}[:1], []bool{yes, yes, yes}[:1], false)
	wantBoth(t, all[:0], all, false)
	wantBoth(t, all[:1], all[1:], true) // lists may lie in one memory
	wantBoth(t, all, all, true)
}

// 14.5: what follows

// TestOneFewerIsNotEnough: just enough win, one fewer do not, whoever they are.
func TestOneFewerIsNotEnough(t *testing.T) {
	for n := 1; n <= 300; n++ {
		l := granted(n, Enough(n))
		wantWon(t, l, true)
		slices.Reverse(l)
		wantWon(t, l, true)
		l = granted(n, Enough(n)-1)
		wantWon(t, l, false)
		slices.Reverse(l)
		wantWon(t, l, false)
	}
}

// TestTwoThatWinHaveOneInCommon: all pairs of lists of one length.
func TestTwoThatWinHaveOneInCommon(t *testing.T) {
	for n := range 9 {
		var won [][]bool
		for _, l := range grants(n) {
			if Won(l) {
				won = append(won, l)
			}
		}
		for _, a := range won {
			for _, b := range won {
				wantBoth(t, a, b, true)
			}
		}
	}
}

// TestMajoritiesAreTheLeast: were one fewer enough, two of them could have nobody in common.
func TestMajoritiesAreTheLeast(t *testing.T) {
	for n := 2; n <= 40; n++ {
		a := granted(n, Enough(n)-1)
		b := slices.Clone(a)
		slices.Reverse(b)
		wantBoth(t, a, b, false)
	}
}

// TestOneMoreNeverLoses: who won has won still when another one grants.
func TestOneMoreNeverLoses(t *testing.T) {
	for n := range 11 {
		for _, l := range grants(n) {
			won := Won(l)
			for i := range l {
				more := slices.Clone(l)
				more[i] = true
				if won && !Won(more) {
					t.Fatalf("Won(%v), but not Won(%v)", l, more)
				}
			}
		}
	}
}

// TestOneFurtherNeverTakesBack: wherever one of them comes, further than it was.
func TestOneFurtherNeverTakesBack(t *testing.T) {
	values := []int{math.MinInt, -1, 0, 1, math.MaxInt}
	for n := range 6 {
		for _, l := range lists(n, values) {
			at := Reached(l)
			for i := range l {
				further := slices.Clone(l)
				for _, to := range values {
					if further[i] = to; to > l[i] && Reached(further) < at {
						t.Fatalf("Reached(%v) = %d, but Reached(%v) = %d", l, at, further, Reached(further))
					}
				}
			}
		}
	}
}

// TestReachedIsWhereTheyWon: those who came so far are a majority, those who came further are none.
func TestReachedIsWhereTheyWon(t *testing.T) {
	for n := 1; n <= 6; n++ {
		for _, l := range lists(n, []int{-2, 0, 1, 7}) {
			at := Reached(l)
			if !Won(from(l, at)) || Won(from(l, at+1)) {
				t.Fatalf("Reached(%v) = %d", l, at)
			}
		}
	}
}

// from is who of a list has come up to a place.
func from(l []int, at int) []bool {
	var there []bool
	for _, n := range l {
		there = append(there, n >= at)
	}
	return there
}
