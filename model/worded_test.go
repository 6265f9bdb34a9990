package model

import (
	"bytes"
	"math/big"
	"regexp"
	"slices"
	"testing"

	"funicular/api"
	"funicular/expr"
	"funicular/types"
)

// The promises once more, by another code: what it finds wrong it throws.

var aName = regexp.MustCompile(`\A[a-z][a-z0-9]{0,31}\z`)

// must throws an error, if something does not hold.
func must(holds bool, err api.Errno) {
	if !holds {
		panic(err)
	}
}

// thrown is the error that a function throws.
func thrown(do func()) (err api.Errno) {
	defer func() {
		if e := recover(); e != nil {
			err = e.(api.Errno) // what is none was not thrown here, and goes on
		}
	}()
	do()
	return api.OK
}

// kindsWord is, by kind, whether there is a name, N's greatest, how many of Arg, and the least and the most flows (11.1).
var kindsWord = map[int][5]int{
	1: {0, 0, 0, 1, 1}, 2: {1, 9, 0, 1, 1}, 3: {0, 0, 0, 1, 16}, 4: {0, 0, 0, 2, 16}, 5: {0, 0, 0, 1, 1},
	6: {1, 0, 1, 1, 1}, 7: {0, 0, 1, 1, 1}, 8: {0, 0, 0, 0, 0}, 9: {1, 0, 1, 1, 1},
}

func wordedFields(p api.Place) {
	has, ok := kindsWord[p.Kind]
	must(ok, api.ErrArg)
	if has[0] == 1 {
		must(aName.MatchString(p.Name), api.ErrArg)
		must(p.Kind != 9 || p.Name != "yes" && p.Name != "no", api.ErrArg)
	} else {
		must(p.Name == "", api.ErrArg)
	}
	must(p.N >= 0, api.ErrRange)
	must(p.N <= has[1], api.ErrRange)
	must(len(p.Arg) == has[2], api.ErrArg)
	must(len(p.Out) >= has[3], api.ErrFlow)
	must(len(p.Out) <= has[4], api.ErrFlow)
	for _, x := range p.Arg {
		truth, err := types.Truth(x)
		must(err == api.OK, err)
		must(!truth, api.ErrType)
	}
}

func wordedFlows(p api.Place, last int) {
	for i, f := range p.Out {
		must(f.To >= 1, api.ErrFlow)
		must(f.To <= last, api.ErrFlow)
		must(p.Kind == 3 || len(f.If) == 0, api.ErrFlow)
		must(len(f.If) < 2, api.ErrFlow)
		must(p.Kind != 3 || i+1 == len(p.Out) || len(f.If) > 0, api.ErrFlow)
		for _, x := range f.If {
			truth, err := types.Truth(x)
			must(err == api.OK, err)
			must(truth, api.ErrType)
		}
	}
}

func wordedCheck(d api.Def) {
	must(aName.MatchString(d.Id), api.ErrArg)
	must(len(d.Places) <= 4096, api.ErrLimit)
	must(len(d.Places) > 0, api.ErrFlow)
	for at, p := range d.Places {
		wordedFields(p)
		must(p.Kind != 1 || at == 0, api.ErrFlow)
		must(p.Kind == 1 || at != 0, api.ErrFlow)
		wordedFlows(p, len(d.Places)-1)
	}
}

// words goes through bytes from one place on.
type words struct {
	b  []byte
	at int
}

func (w *words) one() byte {
	must(w.at < len(w.b), api.ErrShort)
	w.at++
	return w.b[w.at-1]
}

// row is a number as 2.1 words it, of any size.
func (w *words) row() *big.Int {
	n := new(big.Int)
	for i := uint(0); ; i++ {
		c := w.one()
		must(i < 9 || c <= 1, api.ErrRange)
		must(i == 0 || c != 0, api.ErrRange)
		n.Add(n, new(big.Int).Lsh(big.NewInt(int64(c&127)), 7*i))
		if c < 128 {
			return n
		}
	}
}

func (w *words) upTo(most int64) int {
	n := w.row()
	must(n.Cmp(big.NewInt(most)) <= 0, api.ErrLimit)
	return int(n.Int64())
}

func (w *words) text() string {
	n := w.row()
	must(n.Cmp(big.NewInt(int64(len(w.b)-w.at))) <= 0, api.ErrShort)
	w.at += int(n.Int64())
	return string(w.b[w.at-int(n.Int64()) : w.at])
}

func (w *words) tree() api.Expr {
	x := w.node(1)
	err := expr.Check(x)
	must(err == api.OK, err)
	return x
}

func (w *words) node(deep int) api.Expr {
	must(deep <= 16, api.ErrLimit)
	x := api.Expr{Kind: int(w.one())}
	must(x.Kind >= 1 && x.Kind <= 14, api.ErrSyntax)
	kids := []int{1: 0, 0, 0, 0, 1, 1, 2, 2, 2, 2, 2, 2, 2, 2}[x.Kind]
	if x.Kind == 1 {
		half, odd := new(big.Int).DivMod(w.row(), big.NewInt(2), new(big.Int))
		if odd.Sign() > 0 {
			half.Sub(big.NewInt(-1), half)
		}
		x.N = half.Int64()
	}
	if x.Kind == 2 {
		x.Name = w.text()
	}
	for len(x.Kids) < kids {
		x.Kids = append(x.Kids, w.node(deep+1))
	}
	return x
}

func (w *words) trees() []api.Expr {
	c := w.one()
	must(c < 2, api.ErrSyntax)
	if c == 0 {
		return nil
	}
	return []api.Expr{w.tree()}
}

// wordedRead is 11.8.
func wordedRead(b []byte) (d api.Def, err api.Errno) {
	err = thrown(func() {
		w := &words{b: b}
		d.Id = w.text()
		for n := w.upTo(4096); n > 0; n-- {
			p := api.Place{Kind: int(w.one())}
			p.Name = w.text()
			p.N = w.upTo(9)
			p.Arg = w.trees()
			for n := w.upTo(16); n > 0; n-- {
				f := api.Flow{To: w.upTo(4096)}
				f.If = w.trees()
				p.Out = append(p.Out, f)
			}
			d.Places = append(d.Places, p)
		}
		must(w.at == len(b), api.ErrSyntax)
		wordedCheck(d)
	})
	return d, err
}

// chance is numbers that look like it, the same in every run.
type chance struct{ at uint64 }

func dice(seed uint64) *chance { return &chance{at: seed*6364136223846793005 + 1442695040888963407} }

func (c *chance) next(n int) int {
	c.at = c.at*6364136223846793005 + 1442695040888963407
	return int(c.at >> 33 % uint64(n))
}

// pick is one of several.
func pick[T any](c *chance, list ...T) T { return list[c.next(len(list))] }

// number and truth are trees that come to the one and to the other.
func (c *chance) number(deep int) api.Expr {
	if deep <= 1 || c.next(3) == 0 {
		return pick(c, num(int64(c.next(1<<20))), num(int64(c.at>>1)), variable("a"), variable("key7"), num(0))
	}
	kind := pick(c, neg, add, sub, mul, div)
	if kind == neg {
		return of(neg, c.number(deep-1))
	}
	return of(kind, c.number(deep-1), c.number(deep-1))
}

func (c *chance) truth(deep int) api.Expr {
	if deep <= 1 || c.next(3) == 0 {
		return pick(c, of(yesTree), of(noTree))
	}
	switch kind := pick(c, not, and, or, eq, lt); kind {
	case not:
		return of(not, c.truth(deep-1))
	case lt:
		return of(lt, c.number(deep-1), c.number(deep-1))
	default:
		return of(kind, c.truth(deep-1), c.truth(deep-1))
	}
}

// def is a definition that may be.
func (c *chance) def() api.Def {
	n := 2 + c.next(8)
	d := api.Def{Id: pick(c, "p", "order7", long(32))}
	for at := range n {
		kind := 2 + c.next(8)
		if at == 0 {
			kind = start
		}
		p := fine(kind)
		if kind == task {
			p.N = c.next(10)
		}
		if len(p.Arg) > 0 {
			p.Arg = []api.Expr{c.number(1 + c.next(6))}
		}
		if kind == xor || kind == fork {
			p.Out = flows(kind, pick(c, 2, 3, 5, 16))
		}
		for i := range p.Out {
			p.Out[i].To = 1 + c.next(n-1)
			if kind == xor && (i < len(p.Out)-1 || c.next(2) == 0) {
				p.Out[i].If = []api.Expr{c.truth(1 + c.next(6))}
			} else {
				p.Out[i].If = nil
			}
		}
		d.Places = append(d.Places, p)
	}
	return d
}

// spoil does one thing to a definition that may be wrong.
func (c *chance) spoil(d *api.Def) {
	if c.next(20) == 0 {
		d.Id = pick(c, "", "P", "1", long(33))
	}
	if c.next(20) == 0 {
		d.Places = d.Places[c.next(len(d.Places)+1):]
	}
	if len(d.Places) == 0 {
		return
	}
	p := &d.Places[c.next(len(d.Places))]
	switch c.next(10) {
	case 8, 9:
		c.spoilTree(d)
	case 0:
		p.Kind = c.next(11)
	case 1:
		p.Name = pick(c, "", "a", "yes", "no", "A", long(33))
	case 2:
		p.N = c.next(12) - 1
	case 3:
		p.Arg = c.trees()
	case 4:
		p.Out = flows(pick(c, xor, fork), c.next(18))
	default:
		if len(p.Out) > 0 {
			c.spoilFlow(&p.Out[c.next(len(p.Out))], len(d.Places))
		}
	}
}

func (c *chance) spoilFlow(f *api.Flow, places int) {
	if c.next(2) == 0 {
		f.To = c.next(places+4) - 2
	} else {
		f.If = c.trees()
	}
}

// spoilTree puts another tree where one stands.
func (c *chance) spoilTree(d *api.Def) {
	var all []*api.Expr
	for _, p := range d.Places {
		for i := range p.Arg {
			all = append(all, &p.Arg[i])
		}
		for _, f := range p.Out {
			for i := range f.If {
				all = append(all, &f.If[i])
			}
		}
	}
	if other := c.trees(); len(all) > 0 && len(other) > 0 {
		*pick(c, all...) = other[0]
	}
}

// trees is some that may be wrong where they stand.
func (c *chance) trees() []api.Expr {
	wrong := noTrees()[pick(c, api.ErrArg, api.ErrLimit, api.ErrType)]
	return pick(c, nil, []api.Expr{c.number(3)}, []api.Expr{c.truth(3)}, []api.Expr{pick(c, wrong...)}, []api.Expr{c.truth(2), c.truth(2)})
}

func TestCheckAgainstWorded(t *testing.T) {
	counts := map[api.Errno]int{}
	for seed := range uint64(30000) {
		c := dice(seed)
		d := c.def()
		for range c.next(4) {
			c.spoil(&d)
		}
		want := thrown(func() { wordedCheck(d) })
		counts[want]++
		wantCheck(t, d, want)
	}
	for _, err := range []api.Errno{api.OK, api.ErrArg, api.ErrRange, api.ErrLimit, api.ErrType, api.ErrFlow} {
		if counts[err] < 200 {
			t.Errorf("error %d came %d times: %v", err, counts[err], counts)
		}
	}
}

// 11.10

func TestThereAndBack(t *testing.T) {
	for seed := range uint64(5000) {
		d := dice(seed).def()
		wantWritten(t, d, written(d))
	}
}

// wantAsWorded fails the test, if bytes are read as something else than worded, or may be written otherwise.
func wantAsWorded(t *testing.T, b []byte) api.Errno {
	t.Helper()
	want, err := wordedRead(b)
	if err != api.OK {
		wantNoRead(t, b, err)
		return err
	}
	wantRead(t, b, want)
	if back, e := Put(want); !bytes.Equal(back, b) || e != api.OK {
		t.Errorf("%v is read, and written as %v, %d", b, back, e)
	}
	return err
}

func TestReadWithEachByteTurned(t *testing.T) {
	counts := map[api.Errno]int{}
	b := written(rich())
	for i := range b {
		for c := range 256 {
			turned := bytes.Clone(b)
			turned[i] = byte(c)
			counts[wantAsWorded(t, turned)]++
		}
		counts[wantAsWorded(t, slices.Delete(bytes.Clone(b), i, i+1))]++
		for c := range 32 {
			counts[wantAsWorded(t, slices.Insert(bytes.Clone(b), i, byte(c)))]++
		}
	}
	for _, err := range []api.Errno{api.OK, api.ErrArg, api.ErrRange, api.ErrSyntax, api.ErrShort, api.ErrLimit, api.ErrType, api.ErrFlow} {
		if counts[err] == 0 {
			t.Errorf("error %d did not come: %v", err, counts)
		}
	}
}

func TestReadOfSpoiltBytes(t *testing.T) {
	for seed := range uint64(30000) {
		c := dice(seed)
		b := written(c.def())
		for range 1 + c.next(3) {
			i := c.next(len(b))
			switch c.next(4) {
			case 0:
				b = slices.Insert(b, i, byte(c.next(256)))
			case 1:
				b = slices.Delete(b, i, min(len(b), i+1+c.next(3)))
			case 2:
				b = b[:i+1]
			default:
				b[i] = pick(c, byte(c.next(256)), byte(c.next(16)), 128, b[i]+1, b[i]-1)
			}
			if len(b) == 0 {
				break
			}
		}
		wantAsWorded(t, b)
	}
}

// All short bytes of some, where a tree may stand.
func TestShortBytesAsTrees(t *testing.T) {
	some := []byte{0, 1, 2, 3, 4, 5, 6, 7, 12, 14, 15, 'a', 128, 255}
	list := [][]byte{nil}
	for range 4 {
		var longer [][]byte
		for _, b := range list {
			for _, c := range some {
				longer = append(longer, append(bytes.Clone(b), c))
			}
		}
		list = longer
		for _, b := range list {
			w := &words{b: b}
			var want api.Expr
			if err := thrown(func() { want = w.tree() }); err == api.OK {
				wantReadExpr(t, b, want, b[w.at:])
				if back := PutExpr(nil, want); !bytes.Equal(back, b[:w.at]) {
					t.Errorf("%v is read, and written as %v", b[:w.at], back)
				}
			} else if got, rest, e := ReadExpr(b); got.Kind != 0 || len(got.Kids) != 0 || len(rest) != 0 || e != err {
				t.Errorf("ReadExpr(%v) = %v, %v, %d, want nothing, %d", b, got, rest, e, err)
			}
		}
	}
}

// R2, P6: the same call answers the same, whatever came ahead of it.
func TestCallsDoNotHangOnOthers(t *testing.T) {
	b := written(rich())
	for k := range len(b) {
		Read(b[:k])
		Put(api.Def{Id: "1"})
		ReadExpr(b[k:])
	}
	wantWritten(t, rich(), b)
}
