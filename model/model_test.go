package model

import (
	"reflect"
	"slices"
	"strings"
	"testing"

	"funicular/api"
)

// Kinds of places and of trees, by the numbers that the document gives them.
const (
	start = 1
	task  = 2
	xor   = 3
	fork  = 4
	join  = 5
	catch = 6
	timer = 7
	end   = 8
	set   = 9

	yesTree = 3
	noTree  = 4
	neg     = 5
	not     = 6
	add     = 7
	sub     = 8
	mul     = 9
	div     = 10
	eq      = 11
	lt      = 12
	and     = 13
	or      = 14
)

func num(n int64) api.Expr { return api.Expr{Kind: 1, N: n} }

func variable(name string) api.Expr { return api.Expr{Kind: 2, Name: name} }

func of(kind int, kids ...api.Expr) api.Expr { return api.Expr{Kind: kind, Kids: kids} }

// below is x with so many signs of a kind about it, on the right of those between two.
func below(kind, n int, x api.Expr) api.Expr {
	for range n {
		if kind <= not {
			x = of(kind, x)
		} else {
			x = of(kind, num(1), x)
		}
	}
	return x
}

func to(at int, conditions ...api.Expr) api.Flow { return api.Flow{To: at, If: conditions} }

// flows is n that lead to the place 1; of a PXor each has a condition.
func flows(kind, n int) []api.Flow {
	var list []api.Flow
	for range n {
		if kind == xor {
			list = append(list, to(1, of(yesTree)))
		} else {
			list = append(list, to(1))
		}
	}
	return list
}

// fine is a place of each kind, by its number, with just what it has.
func fine(kind int) api.Place {
	switch kind {
	case start, join:
		return api.Place{Kind: kind, Out: flows(kind, 1)}
	case task:
		return api.Place{Kind: task, Name: "pay", N: 3, Out: flows(kind, 1)}
	case xor, fork:
		return api.Place{Kind: kind, Out: flows(kind, 2)}
	case catch:
		return api.Place{Kind: catch, Name: "paid", Arg: []api.Expr{variable("key")}, Out: flows(kind, 1)}
	case timer:
		return api.Place{Kind: timer, Arg: []api.Expr{num(60)}, Out: flows(kind, 1)}
	case set:
		return api.Place{Kind: set, Name: "x", Arg: []api.Expr{of(add, variable("x"), num(1))}, Out: flows(kind, 1)}
	}
	return api.Place{Kind: kind}
}

// holding is a definition of three places in which one stands, as the first or the second one, as its kind asks.
func holding(p api.Place) api.Def {
	if p.Kind == start {
		return api.Def{Id: "p", Places: []api.Place{p, fine(end), fine(end)}}
	}
	return api.Def{Id: "p", Places: []api.Place{fine(start), p, fine(end)}}
}

// copied is a definition of its own memory, lists without elements being nil.
func copied(d api.Def) api.Def {
	var places []api.Place
	for _, p := range d.Places {
		var out []api.Flow
		for _, f := range p.Out {
			out = append(out, api.Flow{To: f.To, If: copiedTrees(f.If)})
		}
		places = append(places, api.Place{Kind: p.Kind, Name: strings.Clone(p.Name), N: p.N, Arg: copiedTrees(p.Arg), Out: out})
	}
	return api.Def{Id: strings.Clone(d.Id), Places: places}
}

func copiedTrees(list []api.Expr) []api.Expr {
	var trees []api.Expr
	for _, x := range list {
		trees = append(trees, api.Expr{Kind: x.Kind, N: x.N, Name: strings.Clone(x.Name), Kids: copiedTrees(x.Kids)})
	}
	return trees
}

func copiedTree(x api.Expr) api.Expr { return copiedTrees([]api.Expr{x})[0] }

// equal holds definitions against each other by what the library says.
func equal(a, b api.Def) bool { return reflect.DeepEqual(copied(a), copied(b)) }

func equalTrees(a, b api.Expr) bool { return reflect.DeepEqual(copiedTree(a), copiedTree(b)) }

// wantCheck fails the test, if a definition has another error, is turned, or Put answers something else of it.
func wantCheck(t *testing.T, d api.Def, err api.Errno) {
	t.Helper()
	was := copied(d)
	if e := Check(d); e != err {
		t.Errorf("Check(%v) = %d, want %d", brief(d), e, err)
	}
	b, e := Put(d)
	if e != err || (len(b) == 0) != (err != api.OK) {
		t.Errorf("Put(%v) = %v, %d, want %d", brief(d), b, e, err)
	}
	if !equal(d, was) {
		t.Errorf("%v was changed to %v", was, d)
	}
}

// brief is what may be told of a definition: the greatest ones are too long.
func brief(d api.Def) any {
	if len(d.Places) > 20 {
		return len(d.Places)
	}
	return d
}

func wantPlace(t *testing.T, p api.Place, err api.Errno) {
	t.Helper()
	wantCheck(t, holding(p), err)
}

func long(n int) string { return strings.Repeat("q", n) }

// noNames is texts that are no names, but not empty.
func noNames() []string {
	list := []string{"1", "1a", "0", "A", "aA", "a_", "_a", "a-b", "a b", " a", "a ", "a\x00", "\x00", "é", "a\xff", long(33), long(1000)}
	for c := range 256 {
		if c < 'a' || c > 'z' {
			list = append(list, string([]byte{byte(c)}))
		}
	}
	return list
}

// noTrees is trees that may not be, or have no type, by the error that types.Truth has of them.
func noTrees() map[api.Errno][]api.Expr {
	return map[api.Errno][]api.Expr{
		api.ErrArg: {
			{}, of(15), of(-1), of(263, num(1), num(1)), num(-1), variable(""), variable("1"), variable("yes"), variable("no"), of(yesTree, num(1)),
			of(neg), of(neg, num(1), num(1)), of(add, num(1)), {Kind: 1, Name: "a"}, {Kind: 2, Name: "a", N: 1}, of(add, num(1), num(-1)),
		},
		api.ErrLimit: {below(neg, 16, num(1)), below(not, 16, of(yesTree)), below(add, 16, num(1)), below(neg, 300, num(1)), below(neg, 16, num(-1))},
		api.ErrType:  {of(not, num(1)), of(neg, of(noTree)), of(add, num(1), of(yesTree)), of(eq, num(1), of(yesTree)), of(lt, of(noTree), num(1)), of(and, of(yesTree), variable("a"))},
	}
}

// numberTrees and truthTrees are trees that come to the one and to the other.
func numberTrees() []api.Expr {
	return []api.Expr{
		num(0), num(1<<63 - 1), variable("a"), variable(long(32)), variable("yess"), of(neg, num(1)), of(add, num(1), variable("a")), of(sub, num(1), num(2)),
		of(mul, num(1), num(2)), of(div, num(1), num(0)), below(neg, 15, num(0)), below(sub, 15, variable("b")),
	}
}

func truthTrees() []api.Expr {
	return []api.Expr{
		of(yesTree), of(noTree), of(not, of(yesTree)), of(eq, num(1), num(1)), of(eq, of(noTree), of(noTree)), of(lt, num(2), variable("a")),
		of(and, of(yesTree), of(noTree)), of(or, of(lt, num(1), num(2)), of(noTree)), below(not, 15, of(noTree)),
	}
}

func TestExample(t *testing.T) {
	d := api.Def{Id: "p", Places: []api.Place{
		{Kind: api.PStart, Out: []api.Flow{{To: 1}}},
		{Kind: api.PTask, Name: "pay", N: 2, Out: []api.Flow{{To: 2}}},
		{Kind: api.PEnd},
	}}
	wantCheck(t, d, api.OK)
	wantCheck(t, api.Def{Id: "p"}, api.ErrFlow)
}

// 11.1 and 11.2

func TestEachKindWithJustWhatItHas(t *testing.T) {
	for kind := start; kind <= set; kind++ {
		wantPlace(t, fine(kind), api.OK)
	}
}

func TestKindsThatThereAreNot(t *testing.T) {
	for _, kind := range []int{0, -1, 10, 11, 100, 255, 256 + start, 256 + task, 256 + end, 1<<32 + end, -1 << 63, 1<<63 - 1} {
		for other := start; other <= set; other++ {
			p := fine(other)
			p.Kind = kind
			wantPlace(t, p, api.ErrArg)
		}
	}
}

// named: the kinds that must have a name.
func named(kind int) bool { return kind == task || kind == catch || kind == set }

func TestNamesOfPlaces(t *testing.T) {
	for kind := start; kind <= set; kind++ {
		p := fine(kind)
		for _, name := range []string{"a", "z9", "paid", "n", "ye", "yesno", "no1", "else", long(32)} {
			p.Name = name
			if named(kind) {
				wantPlace(t, p, api.OK)
			} else {
				wantPlace(t, p, api.ErrArg)
			}
		}
		for _, name := range noNames() {
			p.Name = name
			wantPlace(t, p, api.ErrArg)
		}
		p.Name = ""
		if named(kind) {
			wantPlace(t, p, api.ErrArg)
		} else {
			wantPlace(t, p, api.OK)
		}
	}
}

func TestYesAndNoAsNames(t *testing.T) {
	for _, name := range []string{"yes", "no"} {
		for kind := start; kind <= set; kind++ {
			p := fine(kind)
			p.Name = name
			if kind == task || kind == catch {
				wantPlace(t, p, api.OK)
			} else {
				wantPlace(t, p, api.ErrArg)
			}
		}
	}
}

func TestNumbersOfPlaces(t *testing.T) {
	for kind := start; kind <= set; kind++ {
		p := fine(kind)
		for n := 0; n <= 9; n++ {
			p.N = n
			if kind == task || n == 0 {
				wantPlace(t, p, api.OK)
			} else {
				wantPlace(t, p, api.ErrRange)
			}
		}
		for _, n := range []int{-1, -9, 10, 11, 256, 1 << 32, 1<<32 + 1, -1 << 63, 1<<63 - 1} {
			p.N = n
			wantPlace(t, p, api.ErrRange)
		}
	}
}

// counted: the kinds that must have one of Arg.
func counted(kind int) bool { return kind == catch || kind == timer || kind == set }

func TestHowManyOfArg(t *testing.T) {
	for kind := start; kind <= set; kind++ {
		p := fine(kind)
		for n := range 5 {
			p.Arg = slices.Repeat([]api.Expr{num(1)}, n)
			if n == 1 && counted(kind) || n == 0 && !counted(kind) {
				wantPlace(t, p, api.OK)
			} else {
				wantPlace(t, p, api.ErrArg)
			}
		}
		p.Arg = make([]api.Expr, 257) // 1, if it were cut to a byte
		wantPlace(t, p, api.ErrArg)
	}
}

// fits: may a place of a kind have n flows?
func fits(kind, n int) bool {
	switch kind {
	case end:
		return n == 0
	case xor:
		return 1 <= n && n <= 16
	case fork:
		return 2 <= n && n <= 16
	}
	return n == 1
}

func TestHowManyFlows(t *testing.T) {
	for kind := start; kind <= set; kind++ {
		for n := range 40 {
			p := fine(kind)
			p.Out = flows(kind, n)
			if fits(kind, n) {
				wantPlace(t, p, api.OK)
			} else {
				wantPlace(t, p, api.ErrFlow)
			}
		}
	}
}

func TestWhatArgComesTo(t *testing.T) {
	for _, kind := range []int{catch, timer, set} {
		p := fine(kind)
		for _, x := range numberTrees() {
			p.Arg = []api.Expr{x}
			wantPlace(t, p, api.OK)
		}
		for _, x := range truthTrees() {
			p.Arg = []api.Expr{x}
			wantPlace(t, p, api.ErrType)
		}
		for err, list := range noTrees() {
			for _, x := range list {
				p.Arg = []api.Expr{x}
				wantPlace(t, p, err)
			}
		}
	}
}

// fault is a thing that is wrong, and its error.
type fault struct {
	err   api.Errno
	wrong func(p *api.Place)
}

// wantFirst fails the test, if of several faults at once, in all their ways together, another one is told than the first.
func wantFirst(t *testing.T, p api.Place, faults []fault) {
	t.Helper()
	for some := range 1 << len(faults) {
		q := copied(holding(p)).Places[1]
		want := api.OK
		for i := len(faults) - 1; i >= 0; i-- {
			if some>>i&1 == 1 {
				faults[i].wrong(&q)
				want = faults[i].err
			}
		}
		d := holding(p)
		d.Places[1] = q
		wantCheck(t, d, want)
	}
}

func TestFirstErrorOfFields(t *testing.T) {
	kind := fault{api.ErrArg, func(p *api.Place) { p.Kind = 0 }}
	noName := fault{api.ErrArg, func(p *api.Place) { p.Name = "" }}
	aName := fault{api.ErrArg, func(p *api.Place) { p.Name = "a" }}
	n := fault{api.ErrRange, func(p *api.Place) { p.N = -1 }}
	noArg := fault{api.ErrArg, func(p *api.Place) { p.Arg = nil }}
	twoArgs := fault{api.ErrArg, func(p *api.Place) { p.Arg = append(p.Arg, p.Arg...) }}
	noFlows := fault{api.ErrFlow, func(p *api.Place) { p.Out = nil }}
	deepArg := fault{api.ErrLimit, func(p *api.Place) { p.Arg = []api.Expr{below(neg, 16, num(1))} }}
	truthArg := fault{api.ErrType, func(p *api.Place) { p.Arg = []api.Expr{of(yesTree)} }}
	two := fault{api.ErrArg, func(p *api.Place) { p.Arg = append(p.Arg, num(1)) }}
	for _, arg := range []fault{deepArg, truthArg} {
		for _, count := range []fault{noArg, twoArgs, two} {
			wantFirst(t, fine(catch), []fault{kind, noName, n, count, noFlows, arg})
			wantFirst(t, fine(set), []fault{kind, noName, n, count, noFlows, arg})
			wantFirst(t, fine(timer), []fault{kind, aName, n, count, noFlows, arg})
		}
	}
	wantFirst(t, fine(task), []fault{kind, noName, n, two, noFlows})
	wantFirst(t, fine(fork), []fault{kind, aName, n, two, noFlows})
}

// 11.3

func TestWhereFlowsLead(t *testing.T) {
	for kind := start; kind <= set; kind++ {
		for i := range fine(kind).Out {
			for _, at := range []int{1, 2} {
				p := copied(holding(fine(kind))).Places[min(1, kind-start)]
				p.Out[i].To = at
				wantPlace(t, p, api.OK)
			}
			for _, at := range []int{0, 3, 4, -1, -2, 4096, 4097, 1<<32 + 1, -1 << 63, 1<<63 - 1} {
				p := copied(holding(fine(kind))).Places[min(1, kind-start)]
				p.Out[i].To = at
				wantPlace(t, p, api.ErrFlow)
			}
		}
	}
}

func TestFlowsOfTheSmallest(t *testing.T) {
	for at := range 4 {
		wantCheck(t, api.Def{Id: "p", Places: []api.Place{{Kind: start, Out: []api.Flow{to(at)}}}}, api.ErrFlow)
	}
	wantCheck(t, api.Def{Id: "p", Places: []api.Place{fine(start), fine(end)}}, api.OK)
	wantCheck(t, api.Def{Id: "p", Places: []api.Place{fine(start), fine(join)}}, api.OK)
}

func TestConditionsAtOtherKinds(t *testing.T) {
	for kind := start; kind <= set; kind++ {
		for i := range fine(kind).Out {
			for _, list := range [][]api.Expr{{of(yesTree)}, {num(1)}, {of(15)}, {of(yesTree), of(yesTree)}} {
				p := fine(kind)
				p.Out[i].If = list
				if kind != xor {
					wantPlace(t, p, api.ErrFlow)
				}
			}
		}
	}
}

func TestHowManyConditions(t *testing.T) {
	for _, n := range []int{1, 2, 3, 16} {
		for i := range n {
			for count := range 4 {
				p := api.Place{Kind: xor, Out: flows(xor, n)}
				p.Out[i].If = slices.Repeat([]api.Expr{of(noTree)}, count)
				if count == 1 || count == 0 && i == n-1 {
					wantPlace(t, p, api.OK)
				} else {
					wantPlace(t, p, api.ErrFlow)
				}
			}
		}
	}
	p := api.Place{Kind: xor, Out: []api.Flow{to(1, make([]api.Expr, 257)...)}}
	wantPlace(t, p, api.ErrFlow)
}

func TestWhatConditionsComeTo(t *testing.T) {
	for i := range 3 {
		with := func(x api.Expr) api.Place {
			p := api.Place{Kind: xor, Out: flows(xor, 3)}
			p.Out[i].If = []api.Expr{x}
			return p
		}
		for _, x := range truthTrees() {
			wantPlace(t, with(x), api.OK)
		}
		for _, x := range numberTrees() {
			wantPlace(t, with(x), api.ErrType)
		}
		for err, list := range noTrees() {
			for _, x := range list {
				wantPlace(t, with(x), err)
			}
		}
	}
}

func TestFirstErrorOfFlows(t *testing.T) {
	for i := range 2 {
		where := fault{api.ErrFlow, func(p *api.Place) { p.Out[i].To = 0 }}
		two := fault{api.ErrFlow, func(p *api.Place) { p.Out[i].If = append(p.Out[i].If, of(yesTree)) }}
		deep := fault{api.ErrLimit, func(p *api.Place) { p.Out[i].If = []api.Expr{below(not, 16, of(yesTree))} }}
		number := fault{api.ErrType, func(p *api.Place) { p.Out[i].If = []api.Expr{num(1)} }}
		wantFirst(t, fine(xor), []fault{where, two, deep})
		wantFirst(t, fine(xor), []fault{where, two, number})
		atOther := fault{api.ErrFlow, deep.wrong} // a fork's flow may have none
		wantFirst(t, fine(fork), []fault{where, two, atOther})
	}
}

func TestFlowsOneByOne(t *testing.T) {
	at := func(i int) []fault {
		return []fault{
			{api.ErrFlow, func(p *api.Place) { p.Out[i].To = 3 }},
			{api.ErrFlow, func(p *api.Place) { p.Out[i].If = append(p.Out[i].If, of(yesTree)) }},
			{api.ErrArg, func(p *api.Place) { p.Out[i].If = []api.Expr{of(15)} }},
			{api.ErrLimit, func(p *api.Place) { p.Out[i].If = []api.Expr{below(not, 16, of(yesTree))} }},
			{api.ErrType, func(p *api.Place) { p.Out[i].If = []api.Expr{num(1)} }},
		}
	}
	for _, a := range at(0) {
		for _, b := range at(1) {
			wantFirst(t, fine(xor), []fault{a, b})
		}
	}
}

// 11.4

func TestIds(t *testing.T) {
	for _, id := range []string{"a", "p", "z9", "yes", "no", "process", long(32)} {
		d := holding(fine(task))
		d.Id = id
		wantCheck(t, d, api.OK)
	}
	for _, id := range append(noNames(), "") {
		d := holding(fine(task))
		d.Id = id
		wantCheck(t, d, api.ErrArg)
	}
}

// row is a definition of n places: a start, jobs, an end.
func row(n int) api.Def {
	d := api.Def{Id: "row", Places: []api.Place{fine(start)}}
	for i := 1; i < n-1; i++ {
		d.Places = append(d.Places, api.Place{Kind: task, Name: "a", N: i % 10, Out: []api.Flow{to(i + 1)}})
	}
	d.Places = append(d.Places, fine(end))
	return d
}

func TestHowManyPlaces(t *testing.T) {
	for _, n := range []int{2, 3, 100, 4095, 4096} {
		wantCheck(t, row(n), api.OK)
	}
	for _, n := range []int{4097, 4098, 9000} {
		wantCheck(t, row(n), api.ErrLimit)
	}
	wantCheck(t, api.Def{Id: "p", Places: []api.Place{}}, api.ErrFlow)
	wantCheck(t, api.Def{Id: "p", Places: make([]api.Place, 4097)}, api.ErrLimit)
	wantCheck(t, api.Def{Id: "p", Places: make([]api.Place, 4096)}, api.ErrArg)
	d := row(4096)
	d.Places[7].Out[0].To = 4095
	wantCheck(t, d, api.OK)
	d.Places[7].Out[0].To = 4096
	wantCheck(t, d, api.ErrFlow)
}

func TestWhereTheStartStands(t *testing.T) {
	for kind := start; kind <= set; kind++ {
		first := api.Def{Id: "p", Places: []api.Place{fine(kind), fine(task), fine(end)}}
		later := api.Def{Id: "p", Places: []api.Place{fine(start), fine(task), fine(kind)}}
		if kind == start {
			wantCheck(t, first, api.OK)
			wantCheck(t, later, api.ErrFlow)
		} else {
			wantCheck(t, first, api.ErrFlow)
			wantCheck(t, later, api.OK)
		}
	}
	wantCheck(t, api.Def{Id: "p", Places: []api.Place{fine(start), fine(start)}}, api.ErrFlow)
}

func TestFirstErrorOfDefinitions(t *testing.T) {
	many := api.Def{Id: "1", Places: make([]api.Place, 4097)}
	wantCheck(t, many, api.ErrArg)
	wantCheck(t, api.Def{}, api.ErrArg)
	wantCheck(t, api.Def{Id: "P"}, api.ErrArg)
	d := holding(fine(task))
	d.Id = ""
	d.Places[1].N = 10
	wantCheck(t, d, api.ErrArg)
	many = row(4097)
	many.Places[0].N = 1
	wantCheck(t, many, api.ErrLimit)
}

// Of one place its fields come ahead of whether it may stand there, and that ahead of its flows.
func TestFirstErrorOfAPlace(t *testing.T) {
	d := api.Def{Id: "p", Places: []api.Place{fine(start), fine(start), fine(end)}}
	d.Places[1].N = 1
	wantCheck(t, d, api.ErrRange)
	d.Places[1].N = 0
	d.Places[1].Name = "a"
	wantCheck(t, d, api.ErrArg)

	d = api.Def{Id: "p", Places: []api.Place{fine(xor), fine(end)}}
	d.Places[0].Out[0].If = []api.Expr{num(1)}
	wantCheck(t, d, api.ErrFlow)
	d.Places[0].Name = "a"
	wantCheck(t, d, api.ErrArg)

	d = holding(fine(set))
	d.Places[1].Arg = []api.Expr{of(yesTree)}
	d.Places[1].Out[0].To = 0
	wantCheck(t, d, api.ErrType)
}

func TestPlacesOneByOne(t *testing.T) {
	faults := []fault{
		{api.ErrArg, func(p *api.Place) { p.Kind = 0 }},
		{api.ErrRange, func(p *api.Place) { p.N = 1 }},
		{api.ErrFlow, func(p *api.Place) { *p = fine(start) }},
		{api.ErrFlow, func(p *api.Place) { p.Out[0].To = 0 }},
		{api.ErrLimit, func(p *api.Place) { p.Out[1].If = []api.Expr{below(not, 16, of(yesTree))} }},
		{api.ErrType, func(p *api.Place) { p.Out[1].If = []api.Expr{num(1)} }},
	}
	for _, a := range faults {
		for _, b := range faults {
			d := api.Def{Id: "p", Places: []api.Place{fine(start), fine(xor), fine(xor), fine(xor)}}
			b.wrong(&d.Places[3])
			wantCheck(t, d, b.err)
			a.wrong(&d.Places[2])
			wantCheck(t, d, a.err)
			d.Places[0].Kind = end
			wantCheck(t, d, api.ErrFlow)
		}
	}
	d := api.Def{Id: "p", Places: []api.Place{fine(end), fine(task)}}
	d.Places[1].N = 10
	wantCheck(t, d, api.ErrFlow)
	d.Places[0] = api.Place{Kind: start, Out: []api.Flow{to(2)}}
	wantCheck(t, d, api.ErrFlow)
	d.Places[0] = fine(start)
	wantCheck(t, d, api.ErrRange)
}

// 11.9

// rich is a definition with all kinds of places.
func rich() api.Def {
	d := api.Def{Id: "rich7", Places: []api.Place{
		fine(start),
		{Kind: task, Name: "pay", N: 9, Out: []api.Flow{to(2)}},
		{Kind: xor, Out: []api.Flow{to(3, of(lt, variable("a"), num(300))), to(1, of(and, of(yesTree), of(not, of(noTree)))), to(9)}},
		{Kind: fork, Out: []api.Flow{to(4), to(5), to(6)}},
		{Kind: catch, Name: "paid", Arg: []api.Expr{of(mul, variable("key"), of(neg, num(2)))}, Out: []api.Flow{to(7)}},
		{Kind: timer, Arg: []api.Expr{of(div, of(sub, num(1<<40), variable("b")), num(7))}, Out: []api.Flow{to(7)}},
		{Kind: set, Name: "x", Arg: []api.Expr{num(0)}, Out: []api.Flow{to(7)}},
		fine(join),
		{Kind: xor, Out: []api.Flow{to(9, of(or, of(eq, variable("a"), num(1)), of(eq, of(noTree), of(yesTree))))}},
		fine(end),
	}}
	d.Places[7].Out = []api.Flow{to(8)}
	return d
}

// wantSame fails the test, if two are told to be the same, or not, against what must be, in either order.
func wantSame(t *testing.T, a, b api.Def, same bool) {
	t.Helper()
	wasA, wasB := copied(a), copied(b)
	if Same(a, b) != same || Same(b, a) != same {
		t.Errorf("Same(%v, %v) is %v, want %v", a, b, !same, same)
	}
	if !equal(a, wasA) || !equal(b, wasB) {
		t.Errorf("%v or %v was changed", wasA, wasB)
	}
}

func TestSame(t *testing.T) {
	wantSame(t, rich(), rich(), true)
	wantSame(t, rich(), copied(rich()), true)
	wantSame(t, api.Def{}, api.Def{}, true)
	wantSame(t, api.Def{}, api.Def{Places: []api.Place{}}, true)
	wantSame(t, api.Def{Id: "p"}, api.Def{Id: "q"}, false)
	wantSame(t, api.Def{Id: "p"}, api.Def{}, false)
	wantSame(t, api.Def{Places: []api.Place{{}}}, api.Def{}, false)
	wantSame(t, api.Def{Places: []api.Place{{}}}, api.Def{Places: []api.Place{{Arg: []api.Expr{}, Out: []api.Flow{}}}}, true)
	wantSame(t, api.Def{Places: []api.Place{{}}}, api.Def{Places: []api.Place{{Arg: []api.Expr{{}}}}}, false)
	for kind := start; kind <= set; kind++ {
		for other := start; other <= set; other++ {
			one := func(kind int) api.Def { return api.Def{Id: "p", Places: []api.Place{fine(kind)}} }
			wantSame(t, one(kind), one(other), kind == other)
		}
	}
}

// turns is all ways to turn one field of a place alone.
func turns() []func(p *api.Place) {
	list := []func(p *api.Place){
		func(p *api.Place) { p.Kind++ },
		func(p *api.Place) { p.Kind += 256 },
		func(p *api.Place) { p.Name += "a" },
		func(p *api.Place) { p.N++ },
		func(p *api.Place) { p.N += 1 << 32 },
		func(p *api.Place) { p.Arg = append(p.Arg, num(0)) },
		func(p *api.Place) { p.Arg = append(p.Arg, api.Expr{}) },
		func(p *api.Place) { p.Out = append(p.Out, api.Flow{}) },
		func(p *api.Place) { p.Out = append(p.Out, to(1)) },
	}
	for _, turn := range treeTurns() {
		list = append(list, func(p *api.Place) {
			if len(p.Arg) == 0 {
				p.Arg = append(p.Arg, num(1))
			} else {
				turn(&p.Arg[0])
			}
		})
	}
	return list
}

// treeTurns is all ways to turn one field of a tree alone.
func treeTurns() []func(x *api.Expr) {
	return []func(x *api.Expr){
		func(x *api.Expr) { x.Kind++ },
		func(x *api.Expr) { x.N++ },
		func(x *api.Expr) { x.Name += "a" },
		func(x *api.Expr) { x.Kids = append(x.Kids, num(1)) },
	}
}

func TestSameButForOneFieldOfAPlace(t *testing.T) {
	d := rich()
	d.Id += "a"
	wantSame(t, d, rich(), false)
	for i := range rich().Places {
		for _, turn := range turns() {
			d := rich()
			turn(&d.Places[i])
			wantSame(t, d, rich(), false)
		}
		d := rich()
		d.Places = d.Places[:i]
		wantSame(t, d, rich(), false)
		d = rich()
		d.Places = slices.Insert(d.Places, i, fine(end))
		wantSame(t, d, rich(), false)
		if p := rich().Places[i]; len(p.Arg) > 0 {
			d = rich()
			d.Places[i].Arg = nil
			wantSame(t, d, rich(), false)
			d = rich()
			d.Places[i].Arg = append(d.Places[i].Arg, d.Places[i].Arg[0])
			wantSame(t, d, rich(), false)
		}
	}
}

func TestSameButForOneFieldOfAFlow(t *testing.T) {
	flowTurns := []func(f *api.Flow){
		func(f *api.Flow) { f.To++ },
		func(f *api.Flow) { f.To += 1 << 32 },
		func(f *api.Flow) { f.If = append(f.If, of(yesTree)) },
		func(f *api.Flow) { f.If = append(f.If, api.Expr{}) },
	}
	for _, turn := range treeTurns() {
		flowTurns = append(flowTurns, func(f *api.Flow) {
			if len(f.If) == 0 {
				f.If = append(f.If, num(1))
			} else {
				turn(&f.If[0])
			}
		}, func(f *api.Flow) {
			if len(f.If) == 0 || len(f.If[0].Kids) == 0 {
				f.To--
			} else {
				turn(&f.If[0].Kids[len(f.If[0].Kids)-1])
			}
		})
	}
	for i, p := range rich().Places {
		for j, f := range p.Out {
			for _, turn := range flowTurns {
				d := rich()
				turn(&d.Places[i].Out[j])
				wantSame(t, d, rich(), false)
			}
			d := rich()
			d.Places[i].Out = slices.Delete(d.Places[i].Out, j, j+1)
			wantSame(t, d, rich(), false)
			if len(f.If) > 0 {
				d = rich()
				d.Places[i].Out[j].If = nil
				wantSame(t, d, rich(), false)
			}
		}
	}
}

func TestSameButForTheOrder(t *testing.T) {
	d := rich()
	d.Places[3].Out[0], d.Places[3].Out[1] = d.Places[3].Out[1], d.Places[3].Out[0]
	wantSame(t, d, rich(), false)
	d = rich()
	d.Places[4], d.Places[5] = d.Places[5], d.Places[4]
	wantSame(t, d, rich(), false)
	two := func(a, b api.Expr) api.Def {
		return api.Def{Places: []api.Place{{Arg: []api.Expr{a, b}}, {Out: []api.Flow{to(1, a, b)}}}}
	}
	wantSame(t, two(num(1), num(2)), two(num(1), num(2)), true)
	wantSame(t, two(num(1), num(2)), two(num(2), num(1)), false)
}

// What lies behind a list's length plays no part.
func TestBehindTheLength(t *testing.T) {
	d := rich()
	d.Places = append(d.Places, api.Place{Kind: 77, N: -5})[:len(d.Places)]
	for i := range d.Places {
		p := &d.Places[i]
		p.Arg = append(slices.Clone(p.Arg), of(99))[:len(p.Arg)]
		p.Out = append(slices.Clone(p.Out), to(-1))[:len(p.Out)]
		for j := range p.Out {
			f := &p.Out[j]
			f.If = append(slices.Clone(f.If), of(98))[:len(f.If)]
		}
	}
	wantCheck(t, d, api.OK)
	wantSame(t, d, rich(), true)
	wantWritten(t, d, written(rich()))
	if behind := d.Places[:len(d.Places)+1][len(d.Places)]; behind.Kind != 77 || behind.N != -5 {
		t.Errorf("what lies behind was changed: %v", behind)
	}
}
