package flow

import (
	"math"
	"reflect"
	"slices"
	"strings"
	"testing"
	"unsafe"

	"funicular/api"
)

// Kinds of places, by the numbers that the document gives them.
const (
	start = 1
	task  = 2
	xor   = 3
	fork  = 4
	join  = 5
	catch = 6
	timer = 7
	end   = 8
	set   = 9
)

func num(n int64) api.Expr { return api.Expr{Kind: 1, N: n} }

func yes() api.Expr { return api.Expr{Kind: 3} }

// others is the kinds behind which flows lead within the same forks, but for the start.
func others() []int { return []int{task, xor, catch, timer, set} }

// to is a place of a kind that leads to others, with all that it must have.
func to(kind int, out ...int) api.Place {
	p := api.Place{Kind: kind}
	switch kind {
	case task, catch, set:
		p.Name = "x"
	}
	switch kind {
	case catch, timer, set:
		p.Arg = []api.Expr{num(7)}
	}
	for i, at := range out {
		f := api.Flow{To: at}
		if kind == xor && i < len(out)-1 {
			f.If = []api.Expr{yes()}
		}
		p.Out = append(p.Out, f)
	}
	return p
}

func def(places ...api.Place) api.Def { return api.Def{Id: "p", Places: places} }

// example is the chapter's: a fork (1) of two jobs (2, 3), a join (4), an end.
func example() api.Def {
	return def(to(start, 1), to(fork, 2, 3), to(task, 4), to(task, 4), to(join, 5), to(end))
}

// copied is a definition of its own memory, lists without elements being nil.
func copied(d api.Def) api.Def {
	var places []api.Place
	for _, p := range d.Places {
		var out []api.Flow
		for _, f := range p.Out {
			out = append(out, api.Flow{To: f.To, If: copiedTrees(f.If)})
		}
		places = append(places, api.Place{Kind: p.Kind, Name: strings.Clone(p.Name), N: p.N, Arg: copiedTrees(p.Arg), Out: out})
	}
	return api.Def{Id: strings.Clone(d.Id), Places: places}
}

func copiedTrees(list []api.Expr) []api.Expr {
	var trees []api.Expr
	for _, x := range list {
		trees = append(trees, api.Expr{Kind: x.Kind, N: x.N, Name: strings.Clone(x.Name), Kids: copiedTrees(x.Kids)})
	}
	return trees
}

// equal holds definitions against each other by what the library says.
func equal(a, b api.Def) bool { return reflect.DeepEqual(copied(a), copied(b)) }

// brief is what may be told of a definition: kinds and where they lead; the greatest ones are too long.
func brief(d api.Def) any {
	if len(d.Places) > 60 {
		return len(d.Places)
	}
	var list [][]int
	for _, p := range d.Places {
		row := []int{p.Kind}
		for _, f := range p.Out {
			row = append(row, f.To)
		}
		list = append(list, row)
	}
	return list
}

// equalShapes holds shapes against each other.
func equalShapes(a, b api.Shape) bool {
	return slices.Equal(a.Fork, b.Fork) && slices.Equal(a.Deep, b.Deep) && slices.Equal(a.Join, b.Join)
}

// wantShape fails the test, if a definition has another shape, or is turned.
func wantShape(t *testing.T, d api.Def, want api.Shape) {
	t.Helper()
	was := copied(d)
	s, err := Of(d)
	if err != api.OK || !equalShapes(s, want) {
		t.Errorf("Of(%v) = %v, %d, want %v, 0", brief(d), s, err, want)
	}
	if !equal(d, was) {
		t.Errorf("%v was changed to %v", was, d)
	}
}

// wantWrong fails the test, if a definition has another error, a shape beside it, or is turned.
func wantWrong(t *testing.T, d api.Def, want api.Errno) {
	t.Helper()
	was := copied(d)
	s, err := Of(d)
	if err != want || len(s.Fork)+len(s.Deep)+len(s.Join) != 0 {
		t.Errorf("Of(%v) = %v, %d, want nothing, %d", brief(d), s, err, want)
	}
	if !equal(d, was) {
		t.Errorf("%v was changed to %v", was, d)
	}
}

// shape is one by its three lists.
func shape(fork, deep, join []int) api.Shape { return api.Shape{Fork: fork, Deep: deep, Join: join} }

// flat is the shape of so many places that lie within no fork, and are none.
func flat(n int) api.Shape { return shape(make([]int, n), make([]int, n), make([]int, n)) }

func TestExample(t *testing.T) {
	wantShape(t, example(), shape([]int{0, 0, 1, 1, 1, 0}, []int{0, 0, 1, 1, 1, 0}, []int{0, 4, 0, 0, 0, 0}))
}

// 12.1, 12.2: within which forks a place lies

func TestWithoutForks(t *testing.T) {
	wantShape(t, def(to(start, 1), to(end)), flat(2))
	for _, kind := range others() {
		wantShape(t, def(to(start, 1), to(kind, 2), to(end)), flat(3))
		wantShape(t, def(to(start, 2), to(end), to(kind, 1)), flat(3))
	}
	wantShape(t, def(to(start, 1), to(xor, 2, 3, 4, 1), to(end), to(end), to(task, 2)), flat(5))
}

func TestBehindOthersFlowsLeadWithinTheSame(t *testing.T) {
	for _, kind := range others() {
		wantShape(t, def(to(start, 1), to(fork, 2, 3), to(kind, 3), to(join, 4), to(end)),
			shape([]int{0, 0, 1, 1, 0}, []int{0, 0, 1, 1, 0}, []int{0, 3, 0, 0, 0}))
		wantShape(t, def(to(start, 1), to(fork, 2, 3), to(join, 4), to(kind, 2), to(kind, 5), to(end)),
			shape([]int{0, 0, 1, 1, 0, 0}, []int{0, 0, 1, 1, 0, 0}, []int{0, 2, 0, 0, 0, 0}))
		wantWrong(t, def(to(start, 1), to(fork, 2, 3), to(kind, 4), to(join, 4), to(end)), api.ErrFlow)
	}
}

func TestFlowsToTheJoinAtOnce(t *testing.T) {
	want := shape([]int{0, 0, 1, 0}, []int{0, 0, 1, 0}, []int{0, 2, 0, 0})
	for n := 2; n <= 16; n++ {
		wantShape(t, def(to(start, 1), to(fork, slices.Repeat([]int{2}, n)...), to(join, 3), to(end)), want)
	}
	for _, out := range [][]int{{2, 3}, {3, 2}, {2, 2, 3}, {3, 3, 2}, {3, 2, 3}} {
		wantShape(t, def(to(start, 1), to(fork, out...), to(task, 3), to(join, 4), to(end)),
			shape([]int{0, 0, 1, 1, 0}, []int{0, 0, 1, 1, 0}, []int{0, 3, 0, 0, 0}))
	}
}

func TestFlowsToTheSamePlace(t *testing.T) {
	wantShape(t, def(to(start, 1), to(fork, 2, 2), to(task, 3), to(join, 4), to(end)),
		shape([]int{0, 0, 1, 1, 0}, []int{0, 0, 1, 1, 0}, []int{0, 3, 0, 0, 0}))
	wantShape(t, def(to(start, 1), to(fork, 2, 2), to(fork, 3, 3), to(join, 4), to(join, 5), to(end)),
		shape([]int{0, 0, 1, 2, 1, 0}, []int{0, 0, 1, 2, 1, 0}, []int{0, 4, 3, 0, 0, 0}))
}

func TestForksWithinForks(t *testing.T) {
	// 1 has 2 and 3 within it: 4, 5 and their join 6 lie within 2; 7 and its join 8 within 3; 9 ends 1.
	d := def(to(start, 1), to(fork, 2, 3), to(fork, 4, 5), to(fork, 7, 8), to(task, 6), to(timer, 6), to(join, 9), to(set, 8), to(join, 9), to(join, 10), to(end))
	wantShape(t, d, shape(
		[]int{0, 0, 1, 1, 2, 2, 2, 3, 3, 1, 0},
		[]int{0, 0, 1, 1, 2, 2, 2, 2, 2, 1, 0},
		[]int{0, 9, 6, 8, 0, 0, 0, 0, 0, 0, 0}))
	// The same, told from behind: places do not stand in the order in which they are come to.
	d = def(to(start, 10), to(end), to(join, 1), to(join, 2), to(set, 3), to(join, 2), to(timer, 5), to(task, 5), to(fork, 4, 3), to(fork, 7, 6), to(fork, 9, 8))
	wantShape(t, d, shape(
		[]int{0, 0, 10, 8, 8, 9, 9, 9, 10, 10, 0},
		[]int{0, 0, 1, 2, 2, 2, 2, 2, 1, 1, 0},
		[]int{0, 0, 0, 0, 0, 0, 0, 0, 3, 5, 2}))
}

func TestForksBehindForks(t *testing.T) {
	wantShape(t, def(to(start, 1), to(fork, 2, 2), to(join, 3), to(fork, 4, 5), to(task, 5), to(join, 6), to(end)),
		shape([]int{0, 0, 1, 0, 3, 3, 0}, []int{0, 0, 1, 0, 1, 1, 0}, []int{0, 2, 0, 5, 0, 0, 0}))
	// Within a third one.
	wantShape(t, def(to(start, 7), to(fork, 2, 2), to(join, 3), to(fork, 4, 5), to(task, 5), to(join, 6), to(join, 8), to(fork, 1, 6), to(end)),
		shape([]int{0, 7, 1, 7, 3, 3, 7, 0, 0}, []int{0, 1, 2, 1, 2, 2, 1, 0, 0}, []int{0, 2, 0, 5, 0, 0, 0, 6, 0}))
}

func TestForksOnTwoWays(t *testing.T) {
	// Each way of a condition has a fork of its own, and an end of its own.
	wantShape(t, def(to(start, 1), to(xor, 2, 3), to(fork, 4, 4), to(fork, 5, 5), to(join, 6), to(join, 7), to(end), to(end)),
		shape([]int{0, 0, 0, 0, 2, 3, 0, 0}, []int{0, 0, 0, 0, 1, 1, 0, 0}, []int{0, 0, 4, 5, 0, 0, 0, 0}))
	// Two ways lead to one join.
	wantShape(t, def(to(start, 1), to(fork, 2, 3), to(xor, 3, 4), to(join, 5), to(task, 3), to(end)),
		shape([]int{0, 0, 1, 1, 1, 0}, []int{0, 0, 1, 1, 1, 0}, []int{0, 3, 0, 0, 0, 0}))
}

// nested is n forks within one another, both flows of each leading to the next one, so that one place alone is gone on from at a time; a job; their joins; an end.
func nested(n int) api.Def {
	d := def(to(start, 1))
	for i := 1; i <= n; i++ {
		d.Places = append(d.Places, to(fork, i+1, i+1))
	}
	d.Places = append(d.Places, to(task, n+2))
	for i := range n {
		d.Places = append(d.Places, to(join, n+3+i))
	}
	d.Places = append(d.Places, to(end))
	return d
}

// nestedShape is what nested's shape is.
func nestedShape(n int) api.Shape {
	s := flat(2*n + 3)
	for i := 1; i <= n; i++ {
		s.Fork[i], s.Deep[i], s.Join[i] = i-1, i-1, 2*n+2-i
		s.Fork[2*n+2-i], s.Deep[2*n+2-i] = i, i
	}
	s.Fork[n+1], s.Deep[n+1] = n, n
	return s
}

func TestHowDeep(t *testing.T) {
	for n := range 17 {
		wantShape(t, nested(n), nestedShape(n))
	}
	for n := 17; n < 40; n++ {
		wantWrong(t, nested(n), api.ErrLimit)
	}
	wantWrong(t, nested(2000), api.ErrLimit)
}

// A fork behind a join counts no deeper than what it lies within.
func TestManyForksInARow(t *testing.T) {
	d := def(to(start, 1))
	want := flat(1)
	for i := 1; i < 200; i += 2 {
		d.Places = append(d.Places, to(fork, i+1, i+1), to(join, i+2))
		want.Fork, want.Deep, want.Join = append(want.Fork, 0, i), append(want.Deep, 0, 1), append(want.Join, i+1, 0)
	}
	d.Places = append(d.Places, to(end))
	want.Fork, want.Deep, want.Join = append(want.Fork, 0), append(want.Deep, 0), append(want.Join, 0)
	wantShape(t, d, want)
}

func TestLoops(t *testing.T) {
	// Back to a place within none, past a fork and its join.
	wantShape(t, def(to(start, 1), to(task, 2), to(fork, 3, 3), to(join, 4), to(xor, 1, 2, 4, 5), to(end)),
		shape([]int{0, 0, 0, 2, 0, 0}, []int{0, 0, 0, 1, 0, 0}, []int{0, 0, 3, 0, 0, 0}))
	// Back within the same fork, to each place that lies within it.
	for back := 2; back <= 4; back++ {
		wantShape(t, def(to(start, 1), to(fork, 2, 3), to(task, 4), to(task, 4), to(xor, back, 5), to(join, 6), to(end)),
			shape([]int{0, 0, 1, 1, 1, 1, 0}, []int{0, 0, 1, 1, 1, 1, 0}, []int{0, 5, 0, 0, 0, 0, 0}))
	}
	// Back to where the places lie within other forks: within none, and within another one.
	for _, back := range []int{1, 2, 8, 9} {
		wantWrong(t, def(to(start, 1), to(task, 2), to(fork, 3, 3), to(join, 8), to(fork, 5, 5), to(task, 6), to(xor, back, 7), to(join, 9), to(task, 4), to(end)), api.ErrFlow)
	}
	// For ever, without an end: balanced all the same.
	wantShape(t, def(to(start, 1), to(task, 1)), flat(2))
	wantShape(t, def(to(start, 1), to(fork, 2, 2), to(join, 1)), shape([]int{0, 0, 1}, []int{0, 0, 1}, []int{0, 2, 0}))
}

// 12.1: what is wrong

func TestEndWithinAFork(t *testing.T) {
	wantWrong(t, def(to(start, 1), to(fork, 2, 3), to(end), to(end)), api.ErrFlow)
	wantWrong(t, def(to(start, 1), to(fork, 2, 3), to(end), to(join, 4), to(end)), api.ErrFlow)
	wantWrong(t, def(to(start, 1), to(fork, 2, 3), to(join, 4), to(end), to(end)), api.ErrFlow)
	wantWrong(t, def(to(start, 1), to(fork, 2, 3), to(join, 4), to(xor, 2, 5), to(end), to(end)), api.ErrFlow)
	wantWrong(t, def(to(start, 1), to(fork, 2, 2), to(xor, 3, 4), to(join, 5), to(end), to(end)), api.ErrFlow)
	for n := 1; n <= 16; n++ {
		d := nested(n)
		d.Places[n] = to(fork, n+1, len(d.Places))
		d.Places = append(d.Places, to(end))
		wantWrong(t, d, api.ErrFlow)
		d.Places[len(d.Places)-1] = to(task, n+1)
		if _, err := Of(d); err != api.OK {
			t.Errorf("a job instead of the end, %d deep: %d", n, err)
		}
	}
}

func TestJoinWithinNone(t *testing.T) {
	wantWrong(t, def(to(start, 1), to(join, 2), to(end)), api.ErrFlow)
	wantWrong(t, def(to(start, 1), to(join, 1)), api.ErrFlow)
	for _, kind := range others() {
		wantWrong(t, def(to(start, 1), to(kind, 2), to(join, 3), to(end)), api.ErrFlow)
	}
	wantWrong(t, def(to(start, 1), to(fork, 2, 2), to(join, 3), to(join, 4), to(end)), api.ErrFlow)
	wantWrong(t, def(to(start, 1), to(xor, 2, 3), to(fork, 4, 4), to(join, 5), to(join, 5), to(end)), api.ErrFlow)
	// nested has a join more than it has forks.
	for n := range 17 {
		d := nested(n)
		d.Places[len(d.Places)-1] = to(join, len(d.Places))
		d.Places = append(d.Places, to(end))
		wantWrong(t, d, api.ErrFlow)
	}
}

func TestTwoJoinsOfOneFork(t *testing.T) {
	wantWrong(t, def(to(start, 1), to(fork, 2, 3), to(join, 4), to(join, 4), to(end)), api.ErrFlow)
	wantWrong(t, def(to(start, 1), to(fork, 2, 3), to(join, 4), to(join, 5), to(end), to(end)), api.ErrFlow)
	wantWrong(t, def(to(start, 1), to(fork, 2, 2), to(xor, 3, 4), to(join, 5), to(join, 5), to(end)), api.ErrFlow)
	// Of the inner fork, and of the outer one alone.
	wantWrong(t, def(to(start, 1), to(fork, 2, 2), to(fork, 3, 4), to(join, 5), to(join, 5), to(join, 6), to(end)), api.ErrFlow)
	wantWrong(t, def(to(start, 1), to(fork, 2, 4), to(fork, 3, 3), to(join, 5), to(join, 6), to(join, 6), to(end)), api.ErrFlow)
	for n := 1; n <= 16; n++ {
		d := nested(n)
		d.Places[n] = to(fork, n+2, len(d.Places), n+1)
		d.Places = append(d.Places, to(join, n+3))
		wantWrong(t, d, api.ErrFlow)
	}
}

// Two forks may not share a join, nor anything behind them that lies within them.
func TestComeToWithinOthers(t *testing.T) {
	t.Run("more", func(t *testing.T) {
		wantWrong(t, def(to(start, 1), to(xor, 3, 2), to(fork, 3, 4), to(task, 5), to(join, 5), to(end)), api.ErrFlow)
		wantWrong(t, def(to(start, 1), to(task, 2), to(fork, 1, 3), to(join, 4), to(end)), api.ErrFlow)
		wantWrong(t, def(to(start, 1), to(fork, 1, 2), to(join, 3), to(end)), api.ErrFlow)
		wantWrong(t, def(to(start, 1), to(fork, 2, 2), to(fork, 3, 4), to(join, 4), to(join, 5), to(end)), api.ErrFlow)
	})
	t.Run("fewer", func(t *testing.T) {
		wantWrong(t, def(to(start, 1), to(fork, 2, 3), to(join, 3), to(task, 2)), api.ErrFlow)
		wantWrong(t, def(to(start, 1), to(fork, 2, 2), to(join, 2)), api.ErrFlow)
		wantWrong(t, def(to(start, 1), to(fork, 2, 3), to(join, 4), to(task, 2), to(xor, 5, 3), to(end)), api.ErrFlow)
		wantWrong(t, def(to(start, 1), to(xor, 2, 3), to(fork, 3, 4), to(task, 5), to(join, 5), to(end)), api.ErrFlow)
		wantWrong(t, def(to(start, 1), to(fork, 2, 3), to(fork, 3, 4), to(task, 4), to(join, 5), to(join, 6), to(end)), api.ErrFlow)
	})
	t.Run("as many", func(t *testing.T) {
		wantWrong(t, def(to(start, 1), to(xor, 2, 3), to(fork, 4, 4), to(fork, 4, 4), to(join, 5), to(end)), api.ErrFlow)
		wantWrong(t, def(to(start, 1), to(fork, 2, 4), to(task, 4), to(fork, 2, 6), to(join, 3), to(end), to(join, 5)), api.ErrFlow)
		// Both lie within the same one, and the inner ones differ.
		wantWrong(t, def(to(start, 1), to(fork, 2, 3), to(fork, 4, 4), to(fork, 4, 4), to(join, 5), to(join, 6), to(end)), api.ErrFlow)
		// The outer ones differ, and the inner one would be the same.
		wantWrong(t, def(to(start, 1), to(xor, 2, 3), to(fork, 4, 4), to(fork, 4, 4), to(fork, 5, 5), to(join, 6), to(join, 7), to(end)), api.ErrFlow)
	})
}

func TestNeverComeTo(t *testing.T) {
	for kind := task; kind <= set; kind++ {
		for _, out := range []int{1, 5, 6} {
			p := to(kind, out)
			switch kind {
			case end:
				p = to(end)
			case fork:
				p = to(fork, out, out)
			}
			d := example()
			d.Places = append(d.Places, p)
			wantWrong(t, d, api.ErrFlow)
		}
	}
	// Each place of an example may be passed by.
	wantWrong(t, def(to(start, 2), to(task, 2), to(end)), api.ErrFlow)
	wantWrong(t, def(to(start, 2), to(end), to(end)), api.ErrFlow)
	wantWrong(t, def(to(start, 1), to(end), to(task, 3), to(task, 2)), api.ErrFlow)
	// A join that would end a fork, but is never come to.
	wantWrong(t, def(to(start, 1), to(fork, 2, 2), to(task, 2), to(join, 4), to(end)), api.ErrFlow)
	// Behind a place that is never come to.
	wantWrong(t, def(to(start, 1), to(end), to(fork, 3, 3), to(join, 1)), api.ErrFlow)
}

func TestForkEndedByNone(t *testing.T) {
	wantWrong(t, def(to(start, 1), to(fork, 2, 2), to(task, 2)), api.ErrFlow)
	wantWrong(t, def(to(start, 1), to(fork, 2, 3), to(task, 3), to(task, 2)), api.ErrFlow)
	wantWrong(t, def(to(start, 1), to(xor, 2, 4), to(fork, 3, 3), to(task, 3), to(end)), api.ErrFlow)
	// The outer one is ended by none, the inner one by its join.
	wantWrong(t, def(to(start, 1), to(fork, 2, 2), to(fork, 3, 3), to(join, 2)), api.ErrFlow)
	// The inner one is ended by none, the outer one by its join.
	wantWrong(t, def(to(start, 1), to(fork, 2, 3), to(fork, 4, 4), to(join, 5), to(task, 4), to(end)), api.ErrFlow)
	// The last place, and the last fork of several.
	wantWrong(t, def(to(start, 4), to(task, 1), to(join, 3), to(xor, 5, 6), to(fork, 2, 2), to(end), to(fork, 1, 1)), api.ErrFlow)
	// As deep as may be, with what would lie deeper never come to.
	d := nested(16)
	d.Places = append(d.Places[:17], to(task, 17))
	wantWrong(t, d, api.ErrFlow)
}

// 12.1, R6: which of two errors is answered

// tooDeep is nested(17), in which the 16th fork (at 16, within 15) and the 17th one (at 17, within 16) lead elsewhere, and other places stand behind from 37 on; the 17th fork's own flows are the first that lead too deep.
func tooDeep(last, beyond []int, behind ...api.Place) api.Def {
	d := nested(17)
	d.Places[16] = to(fork, last...)
	d.Places[17] = to(fork, beyond...)
	d.Places = append(d.Places, behind...)
	return d
}

func TestPlacesInTheOrderInWhichTheyAreComeTo(t *testing.T) {
	beyond := []int{18, 18}
	// What is wrong with a place is told when it is gone on from: ahead of the 17th fork, if it was come to first.
	wantWrong(t, tooDeep([]int{37, 17}, beyond, to(end)), api.ErrFlow)
	wantWrong(t, tooDeep([]int{17, 37}, beyond, to(end)), api.ErrLimit)
	wantWrong(t, tooDeep([]int{17, 37, 17}, beyond, to(end)), api.ErrLimit)
	// One place later is told later: the end is come to ahead of what lies behind the other one.
	wantWrong(t, tooDeep([]int{37, 38}, beyond, to(task, 17), to(end)), api.ErrFlow)
	wantWrong(t, tooDeep([]int{37, 38}, beyond, to(task, 17), to(task, 39), to(end)), api.ErrLimit)
	wantWrong(t, tooDeep([]int{38, 37}, beyond, to(task, 17), to(task, 39), to(end)), api.ErrFlow)
	// Joins of the 16th fork.
	wantWrong(t, tooDeep([]int{37, 38, 17}, beyond, to(join, 20), to(join, 20)), api.ErrFlow)
	wantWrong(t, tooDeep([]int{37, 17, 38}, beyond, to(join, 20), to(join, 20)), api.ErrLimit)
	wantWrong(t, tooDeep([]int{17, 37, 38}, beyond, to(join, 20), to(join, 20)), api.ErrLimit)
	// A flow that leads to a place within other forks: the 15th fork's, from within the 16th, ahead of the 17th, and behind it.
	wantWrong(t, tooDeep([]int{37, 17}, beyond, to(task, 16)), api.ErrFlow)
	wantWrong(t, tooDeep([]int{17, 37}, beyond, to(task, 16)), api.ErrLimit)
	wantWrong(t, tooDeep([]int{17, 16}, beyond), api.ErrFlow)
	wantWrong(t, tooDeep([]int{16, 17}, beyond), api.ErrFlow)
}

func TestFlowByFlow(t *testing.T) {
	last := []int{17, 17}
	// The 17th fork's flows: to places that were come to within others (itself, those ahead of it), and to new ones.
	for at := 1; at <= 17; at++ {
		wantWrong(t, tooDeep(last, []int{at, 18}), api.ErrFlow)
		wantWrong(t, tooDeep(last, []int{18, at}), api.ErrLimit)
		wantWrong(t, tooDeep(last, []int{at, at}), api.ErrFlow)
		wantWrong(t, tooDeep(last, []int{18, 18, at, 19}), api.ErrLimit)
		wantWrong(t, tooDeep(last, []int{at, 18, 18, 19}), api.ErrFlow)
	}
	// A place that was come to from beside it, and not yet gone on from.
	wantWrong(t, tooDeep([]int{17, 37}, []int{37, 18}, to(task, 37)), api.ErrFlow)
	wantWrong(t, tooDeep([]int{17, 37}, []int{18, 37}, to(task, 37)), api.ErrLimit)
	wantWrong(t, tooDeep([]int{17, 17}, []int{37, 18}, to(task, 37)), api.ErrLimit)
	// Of flows of one place the first one that is wrong, whatever the others are.
	wantWrong(t, tooDeep([]int{37, 17}, []int{18, 18}, to(xor, 37, 38, 1, 2), to(task, 17)), api.ErrFlow)
}

// How a join without a fork, or with one that is ended, and a join within none stand against ErrLimit elsewhere.
func TestJoinsAgainstTheLimit(t *testing.T) {
	// Beside the first fork, on the other way of a condition, as far off as the 17th fork is, and nearer, and farther.
	for far := range 25 {
		for _, firstWay := range []bool{true, false} {
			d := nested(17)
			last := len(d.Places)
			d.Places[0].Out[0].To = last
			p := to(xor, 1, last+1)
			if firstWay {
				p = to(xor, last+1, 1)
			}
			d.Places = append(d.Places, p)
			for range far {
				d.Places = append(d.Places, to(task, len(d.Places)+1))
			}
			d.Places = append(d.Places, to(join, len(d.Places)+1), to(end))
			// The join is the place far + 1 of its way, the 17th fork the place 17 of the other one.
			want := api.ErrLimit
			if far < 16 || far == 16 && firstWay {
				want = api.ErrFlow
			}
			wantWrong(t, d, want)
		}
	}
}

func TestWhatIsMissingComesLast(t *testing.T) {
	// A place that is never come to, and forks that are ended by none, are told behind what the walk finds.
	d := nested(17)
	d.Places = append(d.Places, to(task, 1))
	wantWrong(t, d, api.ErrLimit)
	wantWrong(t, def(append(d.Places[:18:18], to(task, 18))...), api.ErrLimit)
	wantWrong(t, tooDeep([]int{17, 17}, []int{18, 18}, to(fork, 37, 37)), api.ErrLimit)
}

// spoilt is definitions that may not be, by model.Check's error.
func spoilt(balanced func() api.Def) map[api.Errno][]api.Def {
	turned := func(turn func(p *api.Place)) api.Def {
		d := balanced()
		turn(&d.Places[len(d.Places)-1])
		return d
	}
	no := balanced()
	no.Id = "1"
	many := balanced()
	for len(many.Places) <= 4096 {
		many.Places = append(many.Places, to(end))
	}
	neg := []api.Expr{{Kind: 5, Kids: []api.Expr{yes()}}}
	return map[api.Errno][]api.Def{
		api.ErrArg: {
			no, {}, turned(func(p *api.Place) { p.Kind = 10 }), turned(func(p *api.Place) { p.Kind = 0 }), turned(func(p *api.Place) { p.Name = "a" }),
			turned(func(p *api.Place) { *p = to(task, 1); p.Name = "" }), turned(func(p *api.Place) { p.Arg = []api.Expr{num(1)} }),
			turned(func(p *api.Place) { *p = to(timer, 1); p.Arg[0].Kind = 0 }),
		},
		api.ErrRange: {turned(func(p *api.Place) { p.N = 1 }), turned(func(p *api.Place) { *p = to(task, 1); p.N = 10 })},
		api.ErrLimit: {many, turned(func(p *api.Place) { *p = to(timer, 1); p.Arg[0] = deepTree(17) })},
		api.ErrType:  {turned(func(p *api.Place) { *p = to(timer, 1); p.Arg[0] = yes() }), turned(func(p *api.Place) { *p = to(set, 1); p.Arg = neg })},
		api.ErrFlow: {
			{Id: "p"}, turned(func(p *api.Place) { p.Out = []api.Flow{{To: 1}} }), turned(func(p *api.Place) { *p = to(start, 1) }),
			turned(func(p *api.Place) { *p = to(task, 0) }), turned(func(p *api.Place) { *p = to(task, 4097) }), turned(func(p *api.Place) { *p = to(task, -1) }),
			turned(func(p *api.Place) { *p = to(fork, 1) }), def(to(end)), def(to(task, 1), to(end)), def(to(start, 1)),
		},
	}
}

// deepTree is a tree so deep.
func deepTree(n int) api.Expr {
	x := num(1)
	for range n - 1 {
		x = api.Expr{Kind: 5, Kids: []api.Expr{x}}
	}
	return x
}

func TestChecksErrorComesFirst(t *testing.T) {
	starts := []func() api.Def{
		example, func() api.Def { return nested(16) }, func() api.Def { return nested(17) },
		func() api.Def { return def(to(start, 1), to(fork, 2, 3), to(end), to(end)) },
		func() api.Def { return def(to(start, 1), to(join, 2), to(end)) },
		func() api.Def { return def(to(start, 1), to(end), to(end)) },
		func() api.Def { return def(to(start, 1), to(fork, 2, 2), to(task, 2), to(end)) },
	}
	for _, first := range starts {
		for err, list := range spoilt(first) {
			for _, d := range list {
				wantWrong(t, d, err)
			}
		}
	}
}

// Trees and names that may be do not tell upon the shape.
func TestWhatPlacesHaveTellsNothing(t *testing.T) {
	d := example()
	want, _ := Of(d)
	d.Id = strings.Repeat("q", 32)
	d.Places[2].N, d.Places[3].Name = 9, "other"
	wantShape(t, d, want)
	d.Places[2], d.Places[3] = to(catch, 4), to(xor, 4)
	d.Places[2].Arg[0] = deepTree(16)
	wantShape(t, d, want)
}

func TestTheGreatest(t *testing.T) {
	// A row of 4096 places.
	d := def(to(start, 1))
	for len(d.Places) < 4095 {
		d.Places = append(d.Places, to(task, len(d.Places)+1))
	}
	d.Places = append(d.Places, to(end))
	wantShape(t, d, flat(4096))
	// Forks of 16 flows, to 16 forks of 16 flows each, and to 15 jobs.
	d = def(to(start, 2), to(end), to(fork), to(join, 1))
	for i := range 16 {
		at := 4 + 17*i
		var out []int
		for j := range 16 {
			out = append(out, at+1+j)
		}
		d.Places[2].Out = append(d.Places[2].Out, api.Flow{To: at})
		d.Places = append(d.Places, to(fork, out...))
		for range 15 {
			d.Places = append(d.Places, to(task, at+16))
		}
		d.Places = append(d.Places, to(join, 3))
	}
	want := flat(4 + 16*17)
	want.Join[2], want.Fork[3], want.Deep[3] = 3, 2, 1
	for i := range 16 {
		at := 4 + 17*i
		want.Fork[at], want.Deep[at], want.Join[at] = 2, 1, at+16
		for j := 1; j <= 16; j++ {
			want.Fork[at+j], want.Deep[at+j] = at, 2
		}
	}
	wantShape(t, d, want)
}

// 12.3

func wantForks(t *testing.T, s api.Shape, at int, want ...int) {
	t.Helper()
	was := shape(slices.Clone(s.Fork), slices.Clone(s.Deep), slices.Clone(s.Join))
	if got := Forks(s, at); !slices.Equal(got, want) {
		t.Errorf("Forks(%v, %d) = %v, want %v", s, at, got, want)
	}
	if !equalShapes(s, was) {
		t.Errorf("%v was changed to %v", was, s)
	}
}

func TestForks(t *testing.T) {
	s, _ := Of(example())
	for at, want := range [][]int{{}, {}, {1}, {1}, {1}, {}} {
		wantForks(t, s, at, want...)
	}
	s, _ = Of(def(to(start, 10), to(end), to(join, 1), to(join, 2), to(set, 3), to(join, 2), to(timer, 5), to(task, 5), to(fork, 4, 3), to(fork, 7, 6), to(fork, 9, 8)))
	for at, want := range [][]int{{}, {}, {10}, {10, 8}, {10, 8}, {10, 9}, {10, 9}, {10, 9}, {10}, {10}, {}} {
		wantForks(t, s, at, want...)
	}
}

func TestForksOfNested(t *testing.T) {
	for n := range 17 {
		s := nestedShape(n)
		var want []int
		for at := range 2*n + 3 {
			switch {
			case at > 1 && at <= n+1:
				want = append(want, at-1)
			case at > n+2:
				want = want[:len(want)-1]
			}
			wantForks(t, s, at, want...)
		}
	}
}

func TestForksOfPlacesThatThereAreNot(t *testing.T) {
	for _, s := range []api.Shape{{}, flat(0), flat(2), nestedShape(1), nestedShape(16)} {
		n := len(s.Fork)
		for _, at := range []int{-1, -2, -n, -n - 1, n, n + 1, 2 * n, 4096, 1 << 40, math.MaxInt, math.MinInt} {
			if at < 0 || at >= n {
				wantForks(t, s, at)
			}
		}
	}
	// What lies behind the length is none of its places.
	s := nestedShape(3)
	s.Fork = s.Fork[:6]
	wantForks(t, s, 6)
	wantForks(t, s, 5, 1, 2, 3)
}

// What is no definition's shape: nothing is promised, but that the call ends.
func TestForksOfWhatIsNoShape(t *testing.T) {
	for _, list := range [][]int{{0, 1}, {0, 2}, {0, 2, 1}, {0, 2, 3, 1}, {5, 5}, {-1, -1}, {0, math.MaxInt}, {0, math.MinInt}, {1, 0}, {0, 3, 3, 9}} {
		for _, s := range []api.Shape{{Fork: list}, shape(list, nil, nil), shape(list, list, list), {Deep: list}, {Join: list}} {
			for at := -1; at <= len(list); at++ {
				if got := Forks(s, at); len(got) > 16 {
					t.Errorf("Forks(%v, %d) has %d", s, at, len(got))
				}
			}
		}
	}
}

// 12.4

func named(kind int, names ...string) api.Def {
	d := def()
	for _, name := range names {
		p := to(kind, 1)
		p.Name = name
		d.Places = append(d.Places, p)
	}
	return d
}

// wantNames fails the test, if a definition has other jobs, other messages, or is turned.
func wantNames(t *testing.T, d api.Def, jobs, messages []string) {
	t.Helper()
	was := copied(d)
	if got := Jobs(d); !slices.Equal(got, jobs) {
		t.Errorf("Jobs = %q, want %q", got, jobs)
	}
	if got := Messages(d); !slices.Equal(got, messages) {
		t.Errorf("Messages = %q, want %q", got, messages)
	}
	if !equal(d, was) {
		t.Errorf("%v was changed to %v", was, d)
	}
}

func TestNames(t *testing.T) {
	sorted := []struct{ in, want []string }{
		{nil, nil},
		{[]string{"pay"}, []string{"pay"}},
		{[]string{"pay", "pay"}, []string{"pay"}},
		{[]string{"pay", "ship"}, []string{"pay", "ship"}},
		{[]string{"ship", "pay"}, []string{"pay", "ship"}},
		{[]string{"b", "a", "b", "a", "c", "a"}, []string{"a", "b", "c"}},
		{[]string{"a10", "a9", "a", "a1", "b", "aa"}, []string{"a", "a1", "a10", "a9", "aa", "b"}},
		{[]string{"z", strings.Repeat("a", 32), strings.Repeat("a", 31)}, []string{strings.Repeat("a", 31), strings.Repeat("a", 32), "z"}},
		// Of those that may not be, too: byte by byte.
		{[]string{"b", "", "B", "_", "\xff", "é", "a\x00", "a", ""}, []string{"", "B", "_", "a", "a\x00", "b", "é", "\xff"}},
	}
	for _, c := range sorted {
		wantNames(t, named(task, c.in...), c.want, nil)
		wantNames(t, named(catch, c.in...), nil, c.want)
		for _, kind := range []int{start, xor, fork, join, timer, end, set, 0, 10, -2, 258} {
			wantNames(t, named(kind, c.in...), nil, nil)
		}
		both := named(task, c.in...)
		both.Places = append(both.Places, named(catch, "paid", "asked", "paid").Places...)
		both.Places = append(both.Places, named(set, "x").Places...)
		wantNames(t, both, c.want, []string{"asked", "paid"})
	}
	wantNames(t, api.Def{}, nil, nil)
	// The same name as a job and as a message.
	d := named(task, "pay")
	d.Places = append(d.Places, named(catch, "pay").Places...)
	wantNames(t, d, []string{"pay"}, []string{"pay"})
}

func TestNamesOfTheGreatest(t *testing.T) {
	d := def()
	count := map[string]int{}
	c := dice(1)
	for range 4096 {
		p := to(task, 1)
		p.Name = string([]byte{'a' + byte(c.next(26)), 'a' + byte(c.next(26)), 'a' + byte(c.next(3))})
		count[p.Name]++
		d.Places = append(d.Places, p)
	}
	var want []string
	for a := 'a'; a <= 'z'; a++ {
		for b := 'a'; b <= 'z'; b++ {
			for c := 'a'; c <= 'c'; c++ {
				if name := string([]rune{a, b, c}); count[name] > 0 {
					want = append(want, name)
				}
			}
		}
	}
	wantNames(t, d, want, nil)
}

// R3

// What is handed in may have memory behind its length: it is neither read nor written.
func TestBehindTheLength(t *testing.T) {
	places := append(slices.Clone(example().Places), to(task, 9), to(catch, 9), to(fork, 1, 1))
	places[1].Out = append(places[1].Out, api.Flow{To: 77}, api.Flow{To: 78})[:2]
	all := copied(def(places...))
	d := def(places[:6]...)
	wantShape(t, d, shape([]int{0, 0, 1, 1, 1, 0}, []int{0, 0, 1, 1, 1, 0}, []int{0, 4, 0, 0, 0, 0}))
	wantNames(t, d, []string{"x"}, nil)
	if !equal(def(places...), all) || places[1].Out[:4][2].To != 77 || places[1].Out[:4][3].To != 78 {
		t.Error("what lies behind the length was changed")
	}
	list := []int{0, 0, 1, 1, 1, 0, 7, 8}
	if got := append(Forks(shape(list[:6], nil, nil), 2), 5); !slices.Equal(got, []int{1, 5}) || !slices.Equal(list, []int{0, 0, 1, 1, 1, 0, 7, 8}) {
		t.Errorf("%v, %v", got, list)
	}
}

// What is answered is the caller's own: it may be written to and appended to.
func TestAnswersAreNewMemory(t *testing.T) {
	d := example()
	want, _ := Of(d)
	first, _ := Of(d)
	for _, list := range []*[]int{&first.Fork, &first.Deep, &first.Join} {
		for i := range *list {
			(*list)[i] = -1
		}
		*list = append(*list, -1, -1, -1)
	}
	wantShape(t, d, want)
	s, _ := Of(d)
	for i := range s.Fork {
		s.Fork[i] = -7
	}
	if !slices.Equal(s.Deep, want.Deep) || !slices.Equal(s.Join, want.Join) {
		t.Error("lists of a shape share memory")
	}
	for i := range s.Deep {
		s.Deep[i] = -7
	}
	if !slices.Equal(s.Join, want.Join) {
		t.Error("lists of a shape share memory")
	}
	one := Forks(want, 2)
	one[0] = 9
	wantForks(t, want, 2, 1)
}

func TestNamesAreNewMemory(t *testing.T) {
	for _, kind := range []int{task, catch} {
		d := named(kind, "pay", "ship", "pay")
		for _, ask := range []func(api.Def) []string{Jobs, Messages} {
			for _, got := range ask(d) {
				for _, p := range d.Places {
					if unsafe.StringData(got) == unsafe.StringData(p.Name) {
						t.Errorf("the name %q is the definition's own", got)
					}
				}
			}
			if got := ask(d); len(got) > 0 {
				got[0] = "other"
				if again := ask(d); again[0] != "pay" {
					t.Errorf("%q", again)
				}
			}
		}
	}
}
