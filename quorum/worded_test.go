package quorum

import (
	"math"
	"math/big"
	"testing"
)

// The promises once more, by another code: as their words are, by counting, with numbers of any size.

// moreThanHalf: is twice a number more than another one?
func moreThanHalf(many, n int) bool {
	twice := new(big.Int).Lsh(big.NewInt(int64(many)), 1)
	return twice.Cmp(big.NewInt(int64(n))) > 0
}

// wordedWon is 14.2.
func wordedWon(l []bool) bool {
	count := map[bool]int{}
	for _, grants := range l {
		count[grants]++
	}
	return len(l) != 0 && count[true] > count[false]
}

// wordedReached is 14.3.
func wordedReached(l []int) int {
	var found []int
	for _, one := range l {
		many := 0
		for _, other := range l {
			if !(other < one) {
				many++
			}
		}
		if moreThanHalf(many, len(l)) && (found == nil || one > found[0]) {
			found = []int{one}
		}
	}
	if found == nil {
		return 0
	}
	return found[0]
}

// wordedBoth is 14.4.
func wordedBoth(a, b []bool) bool {
	places := map[int]bool{}
	for i, is := range a {
		places[i] = is
	}
	for i, is := range b {
		if is && places[i] {
			return true
		}
	}
	return false
}

// lists is all lists of n of some values.
func lists[T any](n int, values []T) [][]T {
	all := [][]T{{}}
	for range n {
		var longer [][]T
		for _, l := range all {
			for _, v := range values {
				longer = append(longer, append(append([]T(nil), l...), v))
			}
		}
		all = longer
	}
	return all
}

// grants is all lists of n truths.
func grants(n int) [][]bool { return lists(n, []bool{false, true}) }

// chance is a row of numbers that is the same for one seed.
type chance struct{ at uint64 }

func dice(seed uint64) *chance { return &chance{at: seed*6364136223846793005 + 1442695040888963407} }

func (c *chance) next(n int) int {
	c.at = c.at*6364136223846793005 + 1442695040888963407
	return int(c.at >> 33 % uint64(n))
}

func TestEnoughAsWorded(t *testing.T) {
	var numbers []int
	for i := range 2000 {
		numbers = append(numbers, i+1, math.MaxInt-i, 1<<31-1000+i, 1<<40-1000+i)
	}
	c := dice(14)
	for range 2000 {
		numbers = append(numbers, 1+c.next(1<<30)<<c.next(33))
	}
	for _, n := range numbers {
		if many := Enough(n); !moreThanHalf(many, n) || moreThanHalf(many-1, n) {
			t.Fatalf("Enough(%d) = %d", n, many)
		}
	}
}

func TestWonAsWorded(t *testing.T) {
	for n := range 13 {
		for _, l := range grants(n) {
			wantWon(t, l, wordedWon(l))
		}
	}
}

func TestReachedAsWorded(t *testing.T) {
	for n := range 7 {
		for _, l := range lists(n, []int{math.MinInt, -1, 0, 2, math.MaxInt}) {
			wantReached(t, l, wordedReached(l))
		}
	}
}

// TestReachedAsWordedOfLongLists: of numbers that lie far apart, and of such of which many are the same.
func TestReachedAsWordedOfLongLists(t *testing.T) {
	c := dice(3)
	for range 1500 {
		l := make([]int, c.next(200))
		wide := 1 + c.next(1<<c.next(31))
		for i := range l {
			l[i] = (c.next(wide) - wide/2) << c.next(30)
		}
		wantReached(t, l, wordedReached(l))
	}
}

func TestBothAsWorded(t *testing.T) {
	var all [][]bool
	for n := range 6 {
		all = append(all, grants(n)...)
	}
	for _, a := range all {
		for _, b := range all {
			wantBoth(t, a, b, wordedBoth(a, b))
		}
	}
}
