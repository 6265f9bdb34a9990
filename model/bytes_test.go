package model

import (
	"bytes"
	"encoding/binary"
	"math"
	"reflect"
	"slices"
	"strings"
	"testing"
	"unsafe"

	"funicular/api"
)

// writtenTree is b with a tree's bytes behind, as 11.5 says them, by the library's own numbers of seven bits a byte.
func writtenTree(b []byte, x api.Expr) []byte {
	b = append(b, byte(x.Kind))
	if x.Kind == 1 {
		b = binary.AppendVarint(b, x.N)
	}
	if x.Kind == 2 {
		b = writtenText(b, x.Name)
	}
	for _, kid := range x.Kids {
		b = writtenTree(b, kid)
	}
	return b
}

func writtenText(b []byte, s string) []byte {
	return append(binary.AppendUvarint(b, uint64(len(s))), s...)
}

func writtenTrees(b []byte, list []api.Expr) []byte {
	b = append(b, byte(len(list)))
	for _, x := range list {
		b = writtenTree(b, x)
	}
	return b
}

// written is a definition's bytes as 11.6 says them, whether or not it may be.
func written(d api.Def) []byte {
	b := writtenText(nil, d.Id)
	b = binary.AppendUvarint(b, uint64(len(d.Places)))
	for _, p := range d.Places {
		b = append(b, byte(p.Kind))
		b = writtenText(b, p.Name)
		b = binary.AppendUvarint(b, uint64(p.N))
		b = writtenTrees(b, p.Arg)
		b = binary.AppendUvarint(b, uint64(len(p.Out)))
		for _, f := range p.Out {
			b = binary.AppendUvarint(b, uint64(f.To))
			b = writtenTrees(b, f.If)
		}
	}
	return b
}

// joined is bytes of several kinds one behind the other: ints as bytes, texts as they are.
func joined(parts ...any) []byte {
	var b []byte
	for _, part := range parts {
		switch p := part.(type) {
		case int:
			b = append(b, byte(p))
		case string:
			b = append(b, p...)
		case []byte:
			b = append(b, p...)
		}
	}
	return b
}

func row128(n uint64) []byte { return binary.AppendUvarint(nil, n) }

// wantWritten fails the test, if a definition's bytes are others, or are read as another one.
func wantWritten(t *testing.T, d api.Def, want []byte) {
	t.Helper()
	was := copied(d)
	b, err := Put(d)
	if !bytes.Equal(b, want) || err != api.OK {
		t.Errorf("Put(%v) = %v, %d, want %v", brief(d), b, err, want)
	}
	if !equal(d, was) {
		t.Errorf("%v was changed to %v", was, d)
	}
	wantRead(t, want, d)
}

func wantRead(t *testing.T, b []byte, want api.Def) {
	t.Helper()
	was := bytes.Clone(b)
	got, err := Read(b)
	if !equal(got, want) || !Same(got, want) || err != api.OK {
		t.Errorf("Read(%v) = %v, %d, want %v", b, brief(got), err, brief(want))
	}
	if !bytes.Equal(b, was) {
		t.Errorf("%v was changed to %v", was, b)
	}
}

func wantNoRead(t *testing.T, b []byte, want api.Errno) {
	t.Helper()
	was := bytes.Clone(b)
	got, err := Read(b)
	if got.Id != "" || len(got.Places) != 0 || err != want {
		t.Errorf("Read(%v) = %v, %d, want nothing, %d", was, brief(got), err, want)
	}
	if !bytes.Equal(b, was) {
		t.Errorf("%v was changed to %v", was, b)
	}
}

func wantReadExpr(t *testing.T, b []byte, want api.Expr, behind []byte) {
	t.Helper()
	was := bytes.Clone(b)
	got, rest, err := ReadExpr(b)
	if !equalTrees(got, want) || !bytes.Equal(rest, behind) || err != api.OK {
		t.Errorf("ReadExpr(%v) = %v, %v, %d, want %v, %v", b, got, rest, err, want, behind)
	}
	if !bytes.Equal(b, was) {
		t.Errorf("%v was changed to %v", was, b)
	}
}

// wantNoExpr fails the test, if bytes begin with a tree, or have another error; where a tree must stand in a definition, that has the same.
func wantNoExpr(t *testing.T, b []byte, want api.Errno) {
	t.Helper()
	was := bytes.Clone(b)
	got, rest, err := ReadExpr(b)
	if !reflect.DeepEqual(got, api.Expr{}) || len(rest) != 0 || err != want {
		t.Errorf("ReadExpr(%v) = %v, %v, %d, want nothing, %d", was, got, rest, err, want)
	}
	if !bytes.Equal(b, was) {
		t.Errorf("%v was changed to %v", was, b)
	}
	wantNoRead(t, joined(1, "p", 1, timer, 0, 0, 1, b), want)
	wantNoRead(t, joined(1, "p", 1, xor, 0, 0, 0, 1, 1, 1, b), want)
}

// trees is some of each kind, as deep as may be, and at the edges of names and numbers.
func trees() []api.Expr {
	list := append(numberTrees(), truthTrees()...)
	for _, n := range []int64{1, 63, 64, 8191, 8192, 1 << 62, math.MaxInt64} {
		list = append(list, num(n))
	}
	list = append(list, variable("a"), variable("a0"), variable(long(31)))
	for kind := neg; kind <= or; kind++ { // also such as have no type
		for n := range 16 {
			list = append(list, below(kind, n, num(7)), below(kind, n, variable("b")), below(kind, n, of(noTree)))
		}
	}
	list = append(list, of(add, of(add, num(1), num(2)), of(add, num(3), num(4))), of(and, of(not, of(lt, num(1), num(2))), of(or, variable("x"), of(yesTree))))
	return list
}

// 11.5

func TestPutExprKnown(t *testing.T) {
	for _, c := range []struct {
		x    api.Expr
		want []byte
	}{
		{num(0), []byte{1, 0}},
		{num(1), []byte{1, 2}},
		{num(150), []byte{1, 172, 2}},
		{num(math.MaxInt64), []byte{1, 254, 255, 255, 255, 255, 255, 255, 255, 255, 1}},
		{variable("ab"), []byte{2, 2, 'a', 'b'}},
		{of(yesTree), []byte{3}},
		{of(noTree), []byte{4}},
		{of(neg, num(5)), []byte{5, 1, 10}},
		{of(not, of(yesTree)), []byte{6, 3}},
		{of(add, num(1), num(2)), []byte{7, 1, 2, 1, 4}},
		{of(sub, num(1), num(2)), []byte{8, 1, 2, 1, 4}},
		{of(mul, num(1), variable("x")), []byte{9, 1, 2, 2, 1, 'x'}},
		{of(div, variable("x"), num(0)), []byte{10, 2, 1, 'x', 1, 0}},
		{of(eq, of(yesTree), of(noTree)), []byte{11, 3, 4}},
		{of(lt, num(1), of(neg, num(2))), []byte{12, 1, 2, 5, 1, 4}},
		{of(and, of(noTree), of(yesTree)), []byte{13, 4, 3}},
		{of(or, of(or, of(noTree), of(yesTree)), of(noTree)), []byte{14, 14, 4, 3, 4}},
		{of(not, num(1)), []byte{6, 1, 2}}, // it has no type, but may be
	} {
		if got := PutExpr(nil, c.x); !bytes.Equal(got, c.want) {
			t.Errorf("PutExpr(nil, %v) = %v, want %v", c.x, got, c.want)
		}
		wantReadExpr(t, c.want, c.x, nil)
	}
}

func TestPutExprBehindBytes(t *testing.T) {
	for _, ahead := range [][]byte{nil, {}, {0}, {1, 2, 3}, []byte(long(100))} {
		for _, x := range trees() {
			was := copiedTree(x)
			want := writtenTree(bytes.Clone(ahead), x)
			for _, room := range []int{0, 1, 2, 5, 500} {
				b := slices.Concat(ahead, bytes.Repeat([]byte{0xee}, room))[:len(ahead)]
				if got := PutExpr(b, x); !bytes.Equal(got, want) {
					t.Fatalf("PutExpr(%v, %v) with room for %d = %v, want %v", ahead, x, room, got, want)
				}
				if !bytes.Equal(b, ahead) || !equalTrees(x, was) {
					t.Fatalf("PutExpr(%v, %v) changed what it was given", ahead, was)
				}
			}
		}
	}
}

// Nothing is promised of trees that may not be but that the call ends.
func TestPutExprOfWhatMayNotBe(t *testing.T) {
	shared := num(1)
	for range 200 {
		kids := []api.Expr{shared, shared}
		shared = api.Expr{Kind: add, Kids: kids}
	}
	for _, x := range []api.Expr{{}, of(15), of(-1), num(-1), of(add), of(neg, num(1), num(2), num(3)), below(neg, 1<<16, num(1)), shared} {
		b := []byte{1, 2, 3}
		if got := PutExpr(b, x); !bytes.HasPrefix(got, []byte{1, 2, 3}) || !bytes.Equal(b, []byte{1, 2, 3}) {
			t.Errorf("PutExpr of what may not be turned what stood ahead: %v", got)
		}
	}
}

// 11.6

func TestPutKnown(t *testing.T) {
	d := holding(fine(task))
	d.Places[1].N, d.Places[1].Out[0].To = 2, 2
	wantWritten(t, d, joined(1, "p", 3, start, 0, 0, 0, 1, 1, 0, task, 3, "pay", 2, 0, 1, 2, 0, end, 0, 0, 0, 0))
	d = api.Def{Id: "ab", Places: []api.Place{
		fine(start),
		{Kind: xor, Out: []api.Flow{to(2, of(lt, variable("x"), num(150))), to(1)}},
		{Kind: catch, Name: "m", Arg: []api.Expr{of(neg, num(1))}, Out: []api.Flow{to(1)}},
	}}
	wantWritten(t, d, joined(2, "ab", 3, 1, 0, 0, 0, 1, 1, 0, 3, 0, 0, 0, 2, 2, 1, 12, 2, 1, "x", 1, 172, 2, 1, 0, 6, 1, "m", 0, 1, 5, 1, 2, 1, 1, 0))
}

func TestPutEachKind(t *testing.T) {
	for kind := start; kind <= set; kind++ {
		wantWritten(t, holding(fine(kind)), written(holding(fine(kind))))
	}
	wantWritten(t, rich(), written(rich()))
	for n := range 17 {
		for _, kind := range []int{xor, fork} {
			if fits(kind, n) {
				p := api.Place{Kind: kind, Out: flows(kind, n)}
				wantWritten(t, holding(p), written(holding(p)))
			}
		}
	}
	for n := range 10 {
		p := fine(task)
		p.N = n
		wantWritten(t, holding(p), written(holding(p)))
	}
}

func TestPutEachTree(t *testing.T) {
	for _, x := range numberTrees() {
		p := fine(timer)
		p.Arg = []api.Expr{x}
		wantWritten(t, holding(p), written(holding(p)))
	}
	for _, x := range truthTrees() {
		p := fine(xor)
		p.Out[0].If = []api.Expr{x}
		p.Out[1].If = nil
		wantWritten(t, holding(p), written(holding(p)))
	}
}

// greatest is a definition with as many places, flows and as deep trees as may be.
func greatest() api.Def {
	d := api.Def{Id: long(32), Places: []api.Place{{Kind: start, Out: []api.Flow{to(4095)}}}}
	deep := below(not, 15, of(noTree))
	for len(d.Places) < 4096 {
		p := api.Place{Kind: xor}
		for i := range 16 {
			p.Out = append(p.Out, to(4095-i, deep))
		}
		d.Places = append(d.Places, p)
	}
	return d
}

func TestPutTheGreatest(t *testing.T) {
	for _, d := range []api.Def{row(2), row(127), row(128), row(129), row(4095), row(4096), greatest()} {
		b, err := Put(d)
		if !bytes.Equal(b, written(d)) || err != api.OK {
			t.Errorf("Put of %d places: other bytes, or %d", len(d.Places), err)
		}
		got, err := Read(b)
		if !equal(got, d) || !Same(got, d) || err != api.OK {
			t.Errorf("Read of %d places: another one, or %d", len(d.Places), err)
		}
	}
}

func TestPutIsNewMemory(t *testing.T) {
	a, _ := Put(rich())
	b, _ := Put(rich())
	for i := range a {
		a[i] = 0xee
	}
	if !bytes.Equal(b, written(rich())) {
		t.Error("two answers share memory")
	}
}

// 11.7

func TestReadExprLeavesWhatLiesBehind(t *testing.T) {
	for _, behind := range [][]byte{nil, {0}, {1}, {255}, []byte("what lies behind")} {
		for _, x := range trees() {
			wantReadExpr(t, writtenTree(nil, x), x, nil)
			wantReadExpr(t, slices.Concat(writtenTree(nil, x), behind), x, behind)
		}
	}
}

func TestReadExprCutShort(t *testing.T) {
	for _, x := range trees() {
		b := writtenTree(nil, x)
		for k := range len(b) {
			wantNoExpr(t, bytes.Clone(b)[:k], api.ErrShort) // with what was cut off still behind its length
			wantNoExpr(t, slices.Clip(bytes.Clone(b[:k])), api.ErrShort)
		}
	}
	wantNoExpr(t, nil, api.ErrShort)
}

func TestReadExprDeep(t *testing.T) {
	for kind := neg; kind <= or; kind++ {
		for _, leaf := range []api.Expr{num(1), variable("a"), of(yesTree), of(noTree)} {
			wantReadExpr(t, writtenTree(nil, below(kind, 15, leaf)), below(kind, 15, leaf), nil)
			wantNoExpr(t, writtenTree(nil, below(kind, 16, leaf)), api.ErrLimit)
			wantNoExpr(t, writtenTree(nil, below(kind, 17, leaf)), api.ErrLimit)
		}
		left := slices.Repeat([]byte{byte(kind)}, 16) // where the next one would lie is one too deep, whatever it were
		wantNoExpr(t, left, api.ErrLimit)
		wantNoExpr(t, joined(left, 0), api.ErrLimit)
		wantNoExpr(t, joined(left, 15), api.ErrLimit)
		wantNoExpr(t, joined(left, 1), api.ErrLimit)
		wantNoExpr(t, left[:15], api.ErrShort)
		wantNoExpr(t, joined(left[:15], 0), api.ErrSyntax)
		wantNoExpr(t, slices.Repeat([]byte{byte(kind)}, 1<<16), api.ErrLimit)
	}
}

func TestReadExprKinds(t *testing.T) {
	for c := range 256 {
		if c == 0 || c > 14 {
			wantNoExpr(t, joined(c), api.ErrSyntax)
			wantNoExpr(t, joined(c, 1, 2, 1, 2), api.ErrSyntax)
			wantNoExpr(t, joined(neg, c, 1, 2), api.ErrSyntax)
			wantNoExpr(t, joined(add, c, 1, 2), api.ErrSyntax)
			wantNoExpr(t, joined(add, 1, 2, c), api.ErrSyntax)
		}
	}
}

// noRow is a number that pack refuses: a shorter row has it too; tooLong is another one.
var (
	noRow   = []byte{128, 0}
	tooLong = append(bytes.Repeat([]byte{255}, 9), 2)
)

func TestReadExprOfWhatPackRefuses(t *testing.T) {
	for _, row := range [][]byte{noRow, tooLong} {
		wantNoExpr(t, joined(1, row), api.ErrRange)
		wantNoExpr(t, joined(2, row), api.ErrRange)
		wantNoExpr(t, joined(2, row, "abc"), api.ErrRange)
		wantNoExpr(t, joined(add, 1, row, 0), api.ErrRange)
		wantNoExpr(t, joined(add, 1, 2, 2, row), api.ErrRange)
	}
	wantNoExpr(t, joined(1, 128), api.ErrShort)
	wantNoExpr(t, joined(2, 3, "ab"), api.ErrShort)
	wantNoExpr(t, joined(2, row128(1<<32), "ab"), api.ErrShort)
	wantNoExpr(t, joined(2, row128(1<<63), "ab"), api.ErrShort)
	wantNoExpr(t, joined(2, row128(math.MaxUint64), "ab"), api.ErrShort)
}

func TestReadExprOfTreesThatMayNotBe(t *testing.T) {
	for _, x := range []api.Expr{
		num(-1), num(math.MinInt64), num(-64), variable(""), variable("yes"), variable("no"), variable("1"), variable("A"), variable(long(33)), variable("a\x00"),
	} {
		wantNoExpr(t, writtenTree(nil, x), api.ErrArg)
		wantNoExpr(t, joined(writtenTree(nil, x), "behind"), api.ErrArg)
		for kind := neg; kind <= or; kind++ {
			wantNoExpr(t, writtenTree(nil, below(kind, 3, x)), api.ErrArg)
			wantNoExpr(t, writtenTree(nil, below(kind, 15, x)), api.ErrArg)
		}
		wantNoExpr(t, writtenTree(nil, of(add, x, num(1))), api.ErrArg)
	}
}

func TestReadExprTellsTheFirstError(t *testing.T) {
	deep := bytes.Repeat([]byte{neg}, 16)
	negative, noName := []byte{1, 1}, []byte{2, 1, 'A'}
	for _, may := range [][]byte{negative, noName} { // expr.Check comes at last
		wantNoExpr(t, joined(add, may), api.ErrShort)
		wantNoExpr(t, joined(add, may, 0), api.ErrSyntax)
		wantNoExpr(t, joined(add, may, 1, noRow), api.ErrRange)
		wantNoExpr(t, joined(add, may, deep), api.ErrLimit)
		wantNoExpr(t, joined(add, may, 1, 0), api.ErrArg)
	}
	wantNoExpr(t, joined(add, 0, deep), api.ErrSyntax)
	wantNoExpr(t, joined(add, deep, 0), api.ErrLimit)
	wantNoExpr(t, joined(add, 1, noRow, deep), api.ErrRange)
	wantNoExpr(t, joined(add, 1, noRow), api.ErrRange)
	wantNoExpr(t, joined(add, 0), api.ErrSyntax)
	wantNoExpr(t, joined(add, 0, 1, noRow), api.ErrSyntax)
	wantNoExpr(t, joined(add, 2, noRow, 0), api.ErrRange)
	wantNoExpr(t, joined(0, 1, noRow), api.ErrSyntax)
	wantNoExpr(t, joined(add, add, 1, 2), api.ErrShort)
}

func TestReadExprIsNewMemory(t *testing.T) {
	x := of(add, variable("key"), of(neg, of(mul, variable("abc"), num(2))))
	b := append(writtenTree(nil, x), "what lies behind"...)
	got, rest, _ := ReadExpr(b)
	for i := range b {
		b[i] = 'z'
	}
	if !equalTrees(got, x) || string(rest) != "what lies behind" {
		t.Errorf("what was told lies in the bytes' memory: %v, %q", got, rest)
	}
	for i := range rest {
		rest[i] = 'y'
	}
	if !bytes.Equal(b, bytes.Repeat([]byte{'z'}, len(b))) {
		t.Error("what lies behind was written into the bytes' memory")
	}
}

// 11.8

func TestReadCutShort(t *testing.T) {
	for _, d := range []api.Def{rich(), holding(fine(set)), row(200)} {
		b := written(d)
		for k := range len(b) {
			wantNoRead(t, bytes.Clone(b)[:k], api.ErrShort)
			wantNoRead(t, slices.Clip(bytes.Clone(b[:k])), api.ErrShort)
		}
	}
	wantNoRead(t, nil, api.ErrShort)
}

func TestReadWithBytesBehind(t *testing.T) {
	for c := range 256 {
		wantNoRead(t, append(written(rich()), byte(c)), api.ErrSyntax)
	}
	wantNoRead(t, append(written(rich()), written(rich())...), api.ErrSyntax)
	wantNoRead(t, append(written(api.Def{Id: "p"}), 0), api.ErrSyntax) // ahead of Check's
	wantNoRead(t, append(written(api.Def{Id: "P"}), 0), api.ErrSyntax)
}

func TestReadBytesAheadOfTrees(t *testing.T) {
	for c := range 256 {
		arg := joined(1, "p", 3, start, 0, 0, 0, 1, 1, 0, timer, 0, 0, c, 1, 2, 1, 1, 0, end, 0, 0, 0, 0)
		none := joined(1, "p", 3, start, 0, 0, c, 1, 1, 0, end, 0, 0, 0, 0, end, 0, 0, 0, 0)
		condition := joined(1, "p", 2, start, 0, 0, 0, 1, 1, 0, xor, 0, 0, 0, 1, 1, c, 3)
		switch c {
		case 0:
			wantNoRead(t, condition, api.ErrSyntax) // the 3 lies behind
			wantRead(t, condition[:len(condition)-1], api.Def{Id: "p", Places: []api.Place{fine(start), {Kind: xor, Out: []api.Flow{to(1)}}}})
			wantRead(t, none, api.Def{Id: "p", Places: []api.Place{fine(start), fine(end), fine(end)}})
		case 1:
			wantRead(t, condition, api.Def{Id: "p", Places: []api.Place{fine(start), {Kind: xor, Out: []api.Flow{to(1, of(yesTree))}}}})
			p := fine(timer)
			p.Arg = []api.Expr{num(1)}
			wantRead(t, arg, holding(p))
		default:
			wantNoRead(t, arg, api.ErrSyntax)
			wantNoRead(t, none, api.ErrSyntax)
			wantNoRead(t, condition, api.ErrSyntax)
		}
	}
}

func TestReadWhatPackRefuses(t *testing.T) {
	for _, row := range [][]byte{noRow, tooLong} {
		for _, b := range [][]byte{
			joined(row),
			joined(1, "p", row),
			joined(1, "p", 1, start, row),
			joined(1, "p", 1, start, 0, row),
			joined(1, "p", 1, start, 0, 0, 0, row),
			joined(1, "p", 1, start, 0, 0, 0, 1, row),
			joined(1, "p", 1, timer, 0, 0, 1, 1, row),
			joined(1, "p", 1, timer, 0, 0, 1, 2, row),
			joined(1, "p", 1, xor, 0, 0, 0, 1, 1, 1, 1, row),
		} {
			wantNoRead(t, b, api.ErrRange)
			wantNoRead(t, append(b, "and more"...), api.ErrRange)
		}
	}
	for _, n := range []uint64{100, 1 << 31, 1 << 32, 1 << 63, math.MaxUint64} { // more bytes than there are
		wantNoRead(t, joined(row128(n), "p"), api.ErrShort)
		wantNoRead(t, joined(1, "p", 1, task, row128(n), "pay"), api.ErrShort)
	}
}

func TestReadMoreThanThereMayBe(t *testing.T) {
	for _, n := range []uint64{1, 2, 1 << 8, 1 << 16, 1<<32 - 4096, 1 << 32, 1<<32 + 1, 1 << 62, 1<<63 - 4096, 1 << 63, math.MaxUint64 - 4096} {
		for _, behind := range []string{"", "and more bytes"} {
			wantNoRead(t, joined(1, "p", row128(4096+n), behind), api.ErrLimit)
			wantNoRead(t, joined(1, "p", 1, task, 0, row128(9+n), behind), api.ErrLimit)
			wantNoRead(t, joined(1, "p", 1, task, 0, 9, 0, row128(16+n), behind), api.ErrLimit)
			wantNoRead(t, joined(1, "p", 1, task, 0, 9, 0, 16, row128(4096+n), behind), api.ErrLimit)
		}
	}
	wantNoRead(t, joined(1, "p", row128(math.MaxUint64)), api.ErrLimit)
	wantNoRead(t, joined(1, "p", row128(4096)), api.ErrShort)
	wantNoRead(t, joined(1, "p", 1, task, 0, 9), api.ErrShort)
	wantNoRead(t, joined(1, "p", 1, task, 0, 9, 0, 16), api.ErrShort)
	wantNoRead(t, joined(1, "p", 1, task, 0, 9, 0, 16, row128(4096)), api.ErrShort)
}

// Up to those limits Check says what may not be.
func TestReadTellsWhatCheckDoes(t *testing.T) {
	places := func(list ...api.Place) api.Def { return api.Def{Id: "p", Places: list} }
	for _, c := range []struct {
		d   api.Def
		err api.Errno
	}{
		{api.Def{}, api.ErrArg},
		{api.Def{Id: "P", Places: row(3).Places}, api.ErrArg},
		{api.Def{Id: long(33), Places: row(3).Places}, api.ErrArg},
		{places(), api.ErrFlow},
		{places(fine(end)), api.ErrFlow},
		{places(fine(start), fine(start)), api.ErrFlow},
		{places(fine(start), api.Place{}), api.ErrArg},
		{places(fine(start), api.Place{Kind: 10}), api.ErrArg},
		{places(fine(start), api.Place{Kind: 255}), api.ErrArg},
		{places(fine(start), api.Place{Kind: end, Name: "a"}), api.ErrArg},
		{places(fine(start), api.Place{Kind: end, N: 9}), api.ErrRange},
		{places(fine(start), api.Place{Kind: task, N: 9, Out: flows(task, 1)}), api.ErrArg},
		{places(fine(start), api.Place{Kind: end, Arg: []api.Expr{num(1)}}), api.ErrArg},
		{places(fine(start), api.Place{Kind: timer, Out: flows(timer, 1)}), api.ErrArg},
		{places(fine(start), api.Place{Kind: fork, Out: flows(fork, 1)}), api.ErrFlow},
		{places(fine(start), api.Place{Kind: end, Out: flows(end, 16)}), api.ErrFlow},
		{places(fine(start), api.Place{Kind: join, Out: []api.Flow{to(0)}}), api.ErrFlow},
		{places(fine(start), api.Place{Kind: join, Out: []api.Flow{to(2)}}), api.ErrFlow},
		{places(fine(start), api.Place{Kind: join, Out: []api.Flow{to(4096)}}), api.ErrFlow},
		{places(fine(start), api.Place{Kind: join, Out: []api.Flow{to(1, of(yesTree))}}), api.ErrFlow},
		{places(fine(start), api.Place{Kind: xor, Out: []api.Flow{to(1, num(1))}}), api.ErrType},
		{places(fine(start), api.Place{Kind: xor, Out: []api.Flow{to(1, of(not, num(1)))}}), api.ErrType},
		{places(fine(start), api.Place{Kind: timer, Arg: []api.Expr{of(yesTree)}, Out: flows(timer, 1)}), api.ErrType},
		{places(fine(start), api.Place{Kind: set, Name: "yes", Arg: []api.Expr{num(1)}, Out: flows(set, 1)}), api.ErrArg},
	} {
		wantCheck(t, c.d, c.err)
		wantNoRead(t, written(c.d), c.err)
	}
}

func TestReadTellsTheFirstError(t *testing.T) {
	deep := bytes.Repeat([]byte{neg}, 17)
	for _, c := range []struct {
		b   []byte
		err api.Errno
	}{
		{joined(2, "p"), api.ErrShort},
		{joined(noRow, row128(4097)), api.ErrRange},
		{joined(1, "P", row128(4097)), api.ErrLimit},                   // Id is no name: Check's
		{joined(1, "P", 1), api.ErrShort},                              // the same
		{joined(1, "P", 1, 0, 0, 0, 2), api.ErrSyntax},                 // and a Kind that there is not
		{joined(1, "p", row128(4097), noRow), api.ErrLimit},            // places ahead of the first one
		{joined(1, "p", 1, 0, noRow), api.ErrRange},                    // Kind is Check's
		{joined(1, "p", 1, 99, 0, 10), api.ErrLimit},                   // Kind is Check's
		{joined(1, "p", 1, task, noRow, 10), api.ErrRange},             // a name ahead of N
		{joined(1, "p", 1, task, 0, 10, 2), api.ErrLimit},              // N ahead of Arg
		{joined(1, "p", 1, task, 0, noRow, 2), api.ErrRange},           // the same
		{joined(1, "p", 1, task, 0, 0, 2, 17), api.ErrSyntax},          // Arg ahead of flows
		{joined(1, "p", 1, task, 0, 0, 2, noRow), api.ErrSyntax},       // the same
		{joined(1, "p", 1, timer, 0, 0, 1, 0, 17), api.ErrSyntax},      // a tree's Kind ahead of flows
		{joined(1, "p", 1, timer, 0, 0, 1, deep, 17), api.ErrLimit},    // the tree ahead of flows
		{joined(1, "p", 1, timer, 0, 0, 1, 1, 1, noRow), api.ErrArg},   // a tree that may not be ahead of flows
		{joined(1, "p", 1, timer, 0, 0, 1, 1, 1, 17), api.ErrArg},      // the same
		{joined(1, "p", 1, timer, 0, 0, 1, 1, 1), api.ErrArg},          // the same
		{joined(1, "p", 1, timer, 0, 0, 1, 2, 1, "A", 17), api.ErrArg}, // the same
		{joined(1, "p", 1, timer, 0, 0, 1, 6, 1, 2, 17), api.ErrLimit}, // a tree that has no type: Check's
		{joined(1, "p", 1, task, 0, 0, 0, 17, noRow), api.ErrLimit},    // how many flows ahead of the first one
		{joined(1, "p", 1, task, 0, 0, 0, 1, noRow, 2), api.ErrRange},  // To ahead of If
		{joined(1, "p", 1, task, 0, 0, 0, 1, row128(4097), 2), api.ErrLimit},
		{joined(1, "p", 1, task, 0, 0, 0, 2, 1, 2, row128(4097)), api.ErrSyntax},
		{joined(1, "p", 1, task, 0, 0, 0, 2, 1, 1, 0, row128(4097)), api.ErrSyntax},
		{joined(1, "p", 1, task, 0, 0, 0, 2, 1, 1, 1, 1, row128(4097)), api.ErrArg},
		{joined(1, "p", 1, task, 0, 0, 0, 2, row128(4097), 1, 1, 1, 1), api.ErrLimit},
		{joined(1, "p", 2, task, 0, 10, 2, 0, task, noRow), api.ErrLimit},    // a place ahead of the next one
		{joined(1, "p", 2, task, 0, 0, 2, 0, task, noRow), api.ErrSyntax},    // the same
		{joined(1, "p", 2, 0, 0, 0, 0, 0, task, noRow), api.ErrRange},        // Check at last
		{joined(1, "p", 2, 0, 0, 0, 0, 0, task, 0, 10), api.ErrLimit},        // the same
		{joined(1, "p", 2, 0, 0, 0, 0, 0), api.ErrShort},                     // the same
		{joined(1, "p", 1, 0, 0, 0, 0, 0, 0), api.ErrSyntax},                 // bytes behind ahead of Check
		{joined(1, "P", 1, 0, 0, 0, 0, 0), api.ErrArg},                       // Check
		{joined(1, "p", 1, start, 0, 1, 0, 1, 1, 0), api.ErrRange},           // Check
		{joined(1, "p", 1, start, 0, 1, 0, 1, 1, 0, 128), api.ErrSyntax},     // bytes behind ahead of Check, whatever they are
		{joined(1, "p", 1, start, 0, 0, 0, 1, row128(4096)), api.ErrShort},   // To may be read
		{joined(1, "p", 1, start, 0, 0, 0, 1, row128(4096), 0), api.ErrFlow}, // but not be
	} {
		wantNoRead(t, c.b, c.err)
	}
}

// No list of what is read lies in the bytes' memory, or in another one's.
func TestReadIsNewMemory(t *testing.T) {
	b := written(rich())
	one, _ := Read(b)
	two, _ := Read(b)
	for i := range b {
		b[i] = 'z'
	}
	if !equal(one, rich()) || !equal(two, rich()) {
		t.Errorf("what was read lies in the bytes' memory: %v, %v", one, two)
	}
	var all []memory
	for _, d := range []api.Def{one, two} {
		all = append(all, memories(d)...)
	}
	slices.SortFunc(all, func(a, b memory) int {
		if a.from < b.from {
			return -1
		}
		return 1
	})
	for i := 1; i < len(all); i++ {
		if all[i].from < all[i-1].to {
			t.Errorf("two lists share memory: %v, %v", all[i-1], all[i])
		}
	}
	if len(all) < 50 {
		t.Errorf("%d lists were looked at, want some more", len(all))
	}
}

// memory is where a list lies, with its room.
type memory struct{ from, to uintptr }

func memoryOf[T any](list []T) []memory {
	var one T
	if cap(list) == 0 {
		return nil
	}
	from := uintptr(unsafe.Pointer(unsafe.SliceData(list)))
	return []memory{{from, from + uintptr(cap(list))*unsafe.Sizeof(one)}}
}

func memories(d api.Def) []memory {
	all := memoryOf(d.Places)
	for _, p := range d.Places {
		all = append(all, treeMemories(p.Arg)...)
		all = append(all, memoryOf(p.Out)...)
		for _, f := range p.Out {
			all = append(all, treeMemories(f.If)...)
		}
	}
	return all
}

func treeMemories(list []api.Expr) []memory {
	all := memoryOf(list)
	for _, x := range list {
		all = append(all, treeMemories(x.Kids)...)
	}
	return all
}

// A text of one byte may be of the library's own memory; of others none lies in the bytes.
func TestReadNamesAreNewMemory(t *testing.T) {
	b := written(api.Def{Id: strings.Repeat("abc", 9), Places: []api.Place{fine(start), {Kind: set, Name: "some", Arg: []api.Expr{variable("others")}, Out: flows(set, 1)}}})
	d, err := Read(b)
	if err != api.OK {
		t.Fatal(err)
	}
	from := uintptr(unsafe.Pointer(unsafe.SliceData(b)))
	for _, s := range []string{d.Id, d.Places[1].Name, d.Places[1].Arg[0].Name} {
		if at := uintptr(unsafe.Pointer(unsafe.StringData(s))); from <= at && at < from+uintptr(cap(b)) {
			t.Errorf("%q lies in the bytes' memory", s)
		}
	}
}
