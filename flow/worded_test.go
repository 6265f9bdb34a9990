package flow

import (
	"slices"
	"testing"

	"funicular/api"
	"funicular/model"
)

// The promises once more, by another code: what it finds wrong it throws.

// must throws an error, if something does not hold.
func must(holds bool, err api.Errno) {
	if !holds {
		panic(err)
	}
}

// thrown is the error that a function throws.
func thrown(do func()) (err api.Errno) {
	defer func() {
		if e := recover(); e != nil {
			err = e.(api.Errno) // what is none was not thrown here, and goes on
		}
	}()
	do()
	return api.OK
}

// wordedWalk is 12.1: the forks of each place that was come to, the outermost first, and by fork the join that ends it.
func wordedWalk(d api.Def) (map[int][]int, map[int]int) {
	within := map[int][]int{0: {}}
	ends := map[int]int{}
	for order := []int{0}; len(order) > 0; order = order[1:] {
		p, lies := d.Places[order[0]], within[order[0]]
		leads := slices.Clone(lies)
		switch p.Kind {
		case end:
			must(len(lies) == 0, api.ErrFlow)
		case fork:
			leads = append(leads, order[0])
		case join:
			must(len(lies) > 0, api.ErrFlow)
			innermost := lies[len(lies)-1]
			_, another := ends[innermost]
			must(!another, api.ErrFlow)
			ends[innermost] = order[0]
			leads = leads[:len(lies)-1]
		}
		for _, f := range p.Out {
			was, come := within[f.To]
			must(!come || slices.Equal(was, leads), api.ErrFlow)
			must(len(leads) <= 16, api.ErrLimit)
			if !come {
				within[f.To] = leads
				order = append(order, f.To)
			}
		}
	}
	return within, ends
}

// wordedOf is 12.2.
func wordedOf(d api.Def) (within map[int][]int, s api.Shape, err api.Errno) {
	err = thrown(func() {
		wrong := model.Check(d)
		must(wrong == api.OK, wrong)
		lies, ends := wordedWalk(d)
		s = flat(len(d.Places))
		for at, p := range d.Places {
			_, come := lies[at]
			must(come, api.ErrFlow)
			_, ended := ends[at]
			must(ended || p.Kind != fork, api.ErrFlow)
			s.Join[at], s.Deep[at] = ends[at], len(lies[at])
			if len(lies[at]) > 0 {
				s.Fork[at] = lies[at][len(lies[at])-1]
			}
		}
		within = lies
	})
	return within, s, err
}

// wantAsWorded fails the test, if a definition's shape, or the forks of one of its places, are others than worded.
func wantAsWorded(t *testing.T, d api.Def) api.Errno {
	t.Helper()
	within, want, err := wordedOf(d)
	if err != api.OK {
		wantWrong(t, d, err)
		return err
	}
	wantShape(t, d, want)
	for at := range d.Places {
		wantForks(t, want, at, within[at]...)
	}
	return err
}

// chance is numbers that look like it, the same in every run.
type chance struct{ at uint64 }

func dice(seed uint64) *chance { return &chance{at: seed*6364136223846793005 + 1442695040888963407} }

func (c *chance) next(n int) int {
	c.at = c.at*6364136223846793005 + 1442695040888963407
	return int(c.at >> 33 % uint64(n))
}

// built is a balanced definition in the making: its places, the forks within which each lies, and by fork its join.
type built struct {
	chance *chance
	places []api.Place
	within [][]int
	ends   map[int]int
	deep   int // forks within one another there may be so many
}

// put is where a new place stands.
func (b *built) put(p api.Place, within []int) int {
	b.places = append(b.places, p)
	b.within = append(b.within, slices.Clone(within))
	return len(b.places) - 1
}

// block is where something begins that goes on, wherever it does, to a place, all of it within the same forks as that place.
func (b *built) block(next int, within []int, size int) int {
	if size <= 1 {
		kind := others()[b.chance.next(5)]
		return b.put(to(kind, next), within)
	}
	switch b.chance.next(6) {
	case 0:
		return b.block(b.block(next, within, size/2), within, size/2)
	case 1: // a condition, whose ways meet again, or end, if they may
		at := b.put(api.Place{}, within)
		ways := []int{next}
		for range 1 + b.chance.next(3) {
			ways = append(ways, b.way(next, within, size/3))
		}
		b.places[at] = to(xor, ways...)
		return at
	case 2: // a loop
		at := b.put(api.Place{}, within)
		first := b.block(at, within, size/2)
		b.places[at] = to(xor, first, next)
		return []int{at, first}[b.chance.next(2)]
	default:
		return b.fork(next, within, size)
	}
}

// way is where one of a condition's ways begins.
func (b *built) way(next int, within []int, size int) int {
	switch {
	case len(within) == 0 && b.chance.next(3) == 0:
		return b.put(to(end), within)
	case b.chance.next(4) == 0:
		return next
	}
	return b.block(next, within, size)
}

// fork is where a fork stands, whose join leads to a place.
func (b *built) fork(next int, within []int, size int) int {
	if len(within) == b.deep {
		return b.block(next, within, 1)
	}
	at := b.put(api.Place{}, within)
	inner := append(slices.Clone(within), at)
	last := b.put(to(join, next), inner)
	b.ends[at] = last
	var ways []int
	for range 2 + b.chance.next(2) {
		if b.chance.next(4) == 0 {
			ways = append(ways, last)
		} else {
			ways = append(ways, b.block(last, inner, size-1))
			size = size * 2 / 3 // so that one way may be deep
		}
	}
	b.places[at] = to(fork, ways...)
	return at
}

// balanced is a definition that is, its places in any order, and its shape, with the forks within which each lies.
func (c *chance) balanced(size, deep int) (api.Def, api.Shape, [][]int) {
	b := &built{chance: c, ends: map[int]int{}, deep: deep}
	first := b.put(api.Place{}, nil)
	last := b.put(to(end), nil)
	b.places[first] = to(start, b.block(last, nil, size))
	n := len(b.places)
	moved := make([]int, n) // where each stands at last
	for at := range n {
		moved[at] = at
	}
	for at := n - 1; at > 1; at-- {
		other := 1 + c.next(at)
		moved[at], moved[other] = moved[other], moved[at]
	}
	d, s, within := def(make([]api.Place, n)...), flat(n), make([][]int, n)
	for at, p := range b.places {
		for i := range p.Out {
			p.Out[i].To = moved[p.Out[i].To]
		}
		d.Places[moved[at]] = p
		for _, f := range b.within[at] {
			within[moved[at]] = append(within[moved[at]], moved[f])
			s.Fork[moved[at]] = moved[f]
		}
		s.Deep[moved[at]] = len(b.within[at])
	}
	for at, last := range b.ends {
		s.Join[moved[at]] = moved[last]
	}
	return d, s, within
}

func TestBalanced(t *testing.T) {
	deepest, greatest := 0, 0
	for seed := range uint64(6000) {
		c := dice(seed)
		d, s, within := c.balanced(1+c.next(40), 16)
		wantShape(t, d, s)
		for at := range d.Places {
			wantForks(t, s, at, within[at]...)
			deepest = max(deepest, s.Deep[at])
		}
		greatest = max(greatest, len(d.Places))
		wantAsWorded(t, d)
	}
	if deepest < 16 || greatest < 200 {
		t.Errorf("the deepest place lies within %d, the greatest definition has %d places", deepest, greatest)
	}
}

// spoil does one thing to a definition, that may make it wrong.
func (c *chance) spoil(d *api.Def) {
	at := 1 + c.next(len(d.Places)-1)
	p := &d.Places[at]
	somewhere := func() int { return 1 + c.next(len(d.Places)-1) }
	switch c.next(8) {
	case 0, 1:
		if len(p.Out) > 0 {
			p.Out[c.next(len(p.Out))].To = somewhere()
		}
	case 2:
		slices.Reverse(p.Out)
		*p = to(p.Kind, leads(*p)...)
	case 3:
		if p.Kind == xor && len(p.Out) > 1 {
			*p = to(fork, leads(*p)...)
		} else if p.Kind == fork {
			*p = to(xor, leads(*p)...)
		}
	case 4:
		if len(p.Out) == 1 {
			*p = to([]int{task, join}[c.next(2)], leads(*p)...)
		}
	case 5:
		*p = to(end)
	case 6: // a fork more ahead of a place, without a join
		d.Places = append(d.Places, *p)
		d.Places[at] = to(fork, len(d.Places)-1, len(d.Places)-1)
	default: // a fork more about a place, with its join
		if len(p.Out) == 1 {
			n := len(d.Places)
			out := p.Out[0].To
			p.Out[0].To = n + 1
			d.Places = append(d.Places, *p, to(join, out))
			d.Places[at] = to(fork, n, n+1)
		}
	}
}

// leads is where a place's flows lead.
func leads(p api.Place) []int {
	var list []int
	for _, f := range p.Out {
		list = append(list, f.To)
	}
	return list
}

func TestSpoiltAgainstWorded(t *testing.T) {
	counts := map[api.Errno]int{}
	for seed := range uint64(20000) {
		c := dice(seed)
		d, _, _ := c.balanced(1+c.next(30), 16)
		for range 1 + c.next(3) {
			c.spoil(&d)
		}
		counts[wantAsWorded(t, d)]++
	}
	if counts[api.OK] < 500 || counts[api.ErrFlow] < 500 {
		t.Errorf("%v", counts)
	}
}

// Many forks one behind the other, spoilt: both errors come, in either order.
func TestDeepAgainstWorded(t *testing.T) {
	counts := map[api.Errno]int{}
	for seed := range uint64(20000) {
		c := dice(seed)
		d := nested(15 + c.next(4))
		for range 1 + c.next(4) {
			from, at := 10+c.next(len(d.Places)-10), 10+c.next(len(d.Places)-10)
			switch c.next(3) {
			case 0:
				if out := d.Places[from].Out; len(out) > 0 {
					out[c.next(len(out))].To = at
				}
			case 1: // beside what a fork leads to, ahead of it or behind it
				if p := &d.Places[from]; p.Kind == fork {
					d.Places = append(d.Places, to([]int{task, join}[c.next(2)], at))
					p.Out = slices.Insert(p.Out, c.next(3), api.Flow{To: len(d.Places) - 1})
				}
			default:
				c.spoil(&d)
			}
		}
		counts[wantAsWorded(t, d)]++
	}
	if counts[api.OK] < 200 || counts[api.ErrFlow] < 2000 || counts[api.ErrLimit] < 2000 {
		t.Errorf("%v", counts)
	}
}

// pairs is all places that may stand in a definition of so many, each with where it leads: a join, an end, a condition and a fork of two flows.
func pairs(n int) []api.Place {
	list := []api.Place{to(end)}
	for a := 1; a < n; a++ {
		list = append(list, to(join, a))
		for b := a; b < n; b++ {
			list = append(list, to(xor, a, b), to(fork, b, a))
		}
	}
	return list
}

// everySmall does something with each definition of up to five places.
func everySmall(do func(d api.Def)) {
	for n := 2; n <= 5; n++ {
		all := pairs(n)
		count := 1
		for range n - 1 {
			count *= len(all)
		}
		for k := range count {
			d := def(to(start, 1))
			for len(d.Places) < n {
				d.Places = append(d.Places, all[k%len(all)])
				k /= len(all)
			}
			do(d)
		}
	}
}

func TestEverySmallAgainstWorded(t *testing.T) {
	counts := map[api.Errno]int{}
	everySmall(func(d api.Def) {
		_, want, err := wordedOf(d)
		counts[err]++
		if s, e := Of(d); e != err || err == api.OK && !equalShapes(s, want) {
			t.Fatalf("Of(%v) = %v, %d, want %v, %d", brief(d), s, e, want, err)
		}
	})
	if counts[api.OK] < 100 || counts[api.ErrFlow] < 100000 {
		t.Errorf("%v", counts)
	}
}

// P6: the same call answers the same, whatever came ahead of it.
func TestCallsDoNotHangOnOthers(t *testing.T) {
	want, _ := Of(example())
	for n := range 20 {
		Of(nested(n))
		wantShape(t, example(), want)
		wantForks(t, want, 2, 1)
	}
}
