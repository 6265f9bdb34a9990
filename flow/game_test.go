package flow

import (
	"slices"
	"strconv"
	"strings"
	"testing"

	"funicular/api"
)

// 12.5, 12.6: the game is played; who comes to an end must be the last one.

// play is a fork that was come to, and the one about it (nil: none).
type play struct {
	fork int
	up   *play
}

// token stands at a place, in a play (nil: none).
type token struct {
	place int
	play  *play
}

// forks is those of a play and of all about it, the outermost first.
func (p *play) forks() []int {
	if p == nil {
		return nil
	}
	return append(p.up.forks(), p.fork)
}

// in: is a play another one, or within it?
func (p *play) in(other *play) bool { return p != nil && (p == other || p.up.in(other)) }

// game is a definition's tokens, in the order in which they came to where they stand.
type game struct {
	d      api.Def
	tokens []token
}

func newGame(d api.Def) *game { return &game{d: d, tokens: []token{{}}} }

// goOn lets one of the tokens go on, by one of its flows where it may choose.
func (g *game) goOn(i int, way func(n int) int) {
	t := g.tokens[i]
	g.tokens = slices.Delete(g.tokens, i, i+1)
	out := g.d.Places[t.place].Out
	switch g.d.Places[t.place].Kind {
	case end:
	case fork:
		inner := &play{fork: t.place, up: t.play}
		for _, f := range out {
			g.tokens = append(g.tokens, token{f.To, inner})
		}
	case join:
		if !slices.ContainsFunc(g.tokens, func(u token) bool { return u.play.in(t.play) }) {
			g.tokens = append(g.tokens, token{out[0].To, t.play.up})
		}
	default:
		g.tokens = append(g.tokens, token{out[way(len(out))].To, t.play})
	}
}

// lost: does one stand at an end, and is not the last one? Or at a join, and in no play?
func (g *game) lost() bool {
	return slices.ContainsFunc(g.tokens, func(t token) bool {
		kind := g.d.Places[t.place].Kind
		return kind == end && len(g.tokens) > 1 || kind == join && t.play == nil
	})
}

// astray is whether a token is in plays of other forks than its place lies within.
func (g *game) astray(s api.Shape) bool {
	return slices.ContainsFunc(g.tokens, func(t token) bool { return !slices.Equal(t.play.forks(), Forks(s, t.place)) })
}

// choice is which one of several.
type choice func(n int) int

func first(n int) int { return 0 }

func last(n int) int { return n - 1 }

// inTurn is one after the other.
func inTurn() choice {
	k := -1
	return func(n int) int {
		k++
		return k % n
	}
}

// wantWon plays so many moves at the most, and fails the test, if a token comes to an end ahead of others, or stands where it does not lie; it tells whether all are gone.
func wantWon(t *testing.T, d api.Def, s api.Shape, who, way choice, moves int) bool {
	t.Helper()
	g := newGame(d)
	for range moves {
		if len(g.tokens) == 0 {
			return true
		}
		g.goOn(who(len(g.tokens)), way)
		if g.lost() || g.astray(s) {
			t.Fatalf("%v: tokens at %v", brief(d), g.tokens)
		}
	}
	return len(g.tokens) == 0
}

func TestGameOfTheExample(t *testing.T) {
	d := example()
	s, _ := Of(d)
	for seed := range uint64(50) {
		for _, who := range []choice{first, last, inTurn(), dice(seed).next} {
			if !wantWon(t, d, s, who, first, 8) { // the start, the fork, two jobs, the join twice, the end
				t.Error("tokens are left")
			}
		}
	}
}

func TestGameOfBalanced(t *testing.T) {
	done := 0
	for seed := range uint64(1500) {
		c := dice(seed)
		d, _, _ := c.balanced(1+c.next(20), 4)
		s, err := Of(d)
		if err != api.OK {
			t.Fatalf("Of(%v) = %d", brief(d), err)
		}
		for _, who := range []choice{first, last, inTurn(), c.next} {
			for _, way := range []choice{first, last, inTurn(), c.next} {
				if wantWon(t, d, s, who, way, 300) {
					done++
				}
			}
		}
	}
	if done < 10000 {
		t.Errorf("%d games came to their end", done)
	}
}

func TestGameOfNested(t *testing.T) {
	for n := range 8 {
		d := nested(n)
		s, _ := Of(d)
		for _, who := range []choice{first, last, inTurn(), dice(uint64(n)).next} {
			if !wantWon(t, d, s, who, first, 5000) {
				t.Errorf("%d deep, tokens are left", n)
			}
		}
	}
}

// What is not balanced may be lost: the games above would tell it.
func TestGameThatIsLost(t *testing.T) {
	losers := []api.Def{
		def(to(start, 1), to(fork, 2, 3), to(end), to(end)),
		def(to(start, 1), to(fork, 2, 3), to(task, 4), to(task, 5), to(join, 5), to(end)),
		def(to(start, 1), to(join, 2), to(end)),
		def(to(start, 1), to(xor, 3, 2), to(fork, 3, 4), to(task, 5), to(join, 5), to(end)),
	}
	for _, d := range losers {
		wantWrong(t, d, api.ErrFlow)
		lost := false
		for seed := range uint64(100) {
			g := newGame(d)
			c := dice(seed)
			for moves := 0; moves < 20 && len(g.tokens) > 0 && !lost; moves++ {
				g.goOn(c.next(len(g.tokens)), c.next)
				lost = lost || g.lost()
			}
		}
		if !lost {
			t.Errorf("%v was never lost", brief(d))
		}
	}
}

// The game once more, as a tree of plays, so that all ways to go on can be gone through.

// table is a play with its tokens' places, and the plays within it; the outermost one is no fork's (0).
type table struct {
	fork   int
	tokens []int
	plays  []*table
}

// name is the same for tables that differ in nothing but in the order of what lies on them.
func (b *table) name() string {
	var parts []string
	for _, at := range b.tokens {
		parts = append(parts, strconv.Itoa(at))
	}
	for _, p := range b.plays {
		parts = append(parts, p.name())
	}
	slices.Sort(parts)
	return strconv.Itoa(b.fork) + "(" + strings.Join(parts, " ") + ")"
}

// without is a table of its own memory that lacks a token and a play (below 0: none); with has some more.
func (b *table) without(token, inner int) *table {
	next := &table{b.fork, slices.Clone(b.tokens), slices.Clone(b.plays)}
	if token >= 0 {
		next.tokens = slices.Delete(next.tokens, token, token+1)
	}
	if inner >= 0 {
		next.plays = slices.Delete(next.plays, inner, inner+1)
	}
	return next
}

func (b *table) with(tokens []int, plays ...*table) *table {
	b.tokens, b.plays = append(b.tokens, tokens...), append(b.plays, plays...)
	return b
}

// after is what a table may be after one move: a table, or none, and where its last token went.
type after struct {
	table *table
	out   int
}

func (b *table) moves(d api.Def) []after {
	var list []after
	for i, at := range b.tokens {
		rest := b.without(i, -1)
		switch p := d.Places[at]; p.Kind {
		case end:
			list = append(list, after{table: rest})
		case fork:
			list = append(list, after{table: rest.with(nil, &table{fork: at, tokens: leads(p)})})
		case join:
			if len(rest.tokens)+len(rest.plays) == 0 {
				list = append(list, after{out: p.Out[0].To})
			} else {
				list = append(list, after{table: rest})
			}
		default:
			for _, to := range leads(p) {
				list = append(list, after{table: b.without(i, -1).with([]int{to})})
			}
		}
	}
	for i, p := range b.plays {
		for _, next := range p.moves(d) {
			if next.table == nil {
				list = append(list, after{table: b.without(-1, i).with([]int{next.out})})
			} else {
				list = append(list, after{table: b.without(-1, i).with(nil, next.table)})
			}
		}
	}
	return list
}

// each does something with each token, and the forks in whose plays it is.
func (b *table) each(forks []int, do func(at int, forks []int)) {
	for _, at := range b.tokens {
		do(at, forks)
	}
	for _, p := range b.plays {
		p.each(append(slices.Clone(forks), p.fork), do)
	}
}

// fault is what is wrong with a table, if something is.
func (b *table) fault(d api.Def, s api.Shape) string {
	count, ends, why := 0, 0, ""
	b.each(nil, func(at int, forks []int) {
		count++
		if d.Places[at].Kind == end {
			ends++
		}
		if !slices.Equal(forks, Forks(s, at)) {
			why = "a token is in other plays than its place lies within"
		}
	})
	if ends > 0 && count > 1 {
		why = "one comes to an end, and is not the last"
	}
	return why
}

// wantAllWon fails the test, if one of all games of a definition is lost; it tells how many tables there may be.
func wantAllWon(t *testing.T, d api.Def, s api.Shape) int {
	t.Helper()
	first := &table{tokens: []int{0}}
	seen := map[string]bool{first.name(): true}
	for work := []*table{first}; len(work) > 0; work = work[1:] {
		if why := work[0].fault(d, s); why != "" {
			t.Fatalf("%v: %s: %s", brief(d), work[0].name(), why)
		}
		for _, next := range work[0].moves(d) {
			if name := next.table.name(); !seen[name] {
				seen[name] = true
				work = append(work, next.table)
			}
		}
	}
	return len(seen)
}

func TestAllGamesOfEverySmall(t *testing.T) {
	count := 0
	everySmall(func(d api.Def) {
		if s, err := Of(d); err == api.OK {
			count++
			wantAllWon(t, d, s)
		}
	})
	if count < 100 {
		t.Errorf("%d are balanced", count)
	}
}

func TestAllGamesOfBalanced(t *testing.T) {
	tables := 0
	for seed := range uint64(1500) {
		c := dice(seed)
		d, _, _ := c.balanced(1+c.next(7), 3)
		if len(d.Places) > 14 {
			continue
		}
		s, err := Of(d)
		if err != api.OK {
			t.Fatalf("Of(%v) = %d", brief(d), err)
		}
		tables += wantAllWon(t, d, s)
	}
	if tables < 5000 {
		t.Errorf("%d tables", tables)
	}
}
