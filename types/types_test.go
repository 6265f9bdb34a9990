package types

import (
	"math"
	"math/big"
	"reflect"
	"slices"
	"strings"
	"testing"
	"unsafe"

	"funicular/api"
	"funicular/expr"
)

// Trees as promise 7.2 says them, and the kinds by their numbers.
func num(n int64) api.Expr { return api.Expr{Kind: 1, N: n} }

func variable(name string) api.Expr { return api.Expr{Kind: 2, Name: name} }

func of(kind int, kids ...api.Expr) api.Expr { return api.Expr{Kind: kind, Kids: kids} }

const (
	yes = 3
	no  = 4
	neg = 5
	not = 6
	add = 7
	sub = 8
	mul = 9
	div = 10
	eq  = 11
	lt  = 12
	and = 13
	or  = 14

	most = math.MaxInt64
)

// tree is a text's tree.
func tree(t *testing.T, s string) api.Expr {
	t.Helper()
	x, fault := expr.Parse(s)
	if fault != (api.Fault{}) {
		t.Fatalf("Parse(%q): %v", s, fault)
	}
	return x
}

// wantTruth fails the test, if a tree comes to something else, or to nothing.
func wantTruth(t *testing.T, x api.Expr, truth bool) {
	t.Helper()
	if is, err := Truth(x); is != truth || err != api.OK {
		t.Errorf("Truth(%v) = %v, %d, want %v", x, is, err, truth)
	}
}

// wantNoType fails the test, if a tree comes to something, or has another error; Fold has the same.
func wantNoType(t *testing.T, x api.Expr, err api.Errno) {
	t.Helper()
	if is, e := Truth(x); is || e != err {
		t.Errorf("Truth(%v) = %v, %d, want error %d", x, is, e, err)
	}
	if y, e := Fold(x); !reflect.DeepEqual(y, api.Expr{}) || e != err {
		t.Errorf("Fold(%v) = %v, %d, want error %d", x, y, e, err)
	}
}

// wantNames fails the test, if a tree asks for other variables.
func wantNames(t *testing.T, x api.Expr, names ...string) {
	t.Helper()
	if got := Names(x); !slices.Equal(got, names) {
		t.Errorf("Names(%v) = %q, want %q", x, got, names)
	}
}

// wantRenamed fails the test, if a tree with a name in place of another is another one.
func wantRenamed(t *testing.T, x api.Expr, from, to string, y api.Expr) {
	t.Helper()
	if got, err := Rename(x, from, to); !equal(got, y) || err != api.OK {
		t.Errorf("Rename(%v, %q, %q) = %v, %d, want %v", x, from, to, got, err, y)
	}
}

// wantNotRenamed fails the test, if there is a tree, or another error.
func wantNotRenamed(t *testing.T, x api.Expr, from, to string, err api.Errno) {
	t.Helper()
	if got, e := Rename(x, from, to); !reflect.DeepEqual(got, api.Expr{}) || e != err {
		t.Errorf("Rename(%v, %q, %q) = %v, %d, want error %d", x, from, to, got, e, err)
	}
}

// wantFolded fails the test, if a tree is reckoned to another one.
func wantFolded(t *testing.T, x, y api.Expr) {
	t.Helper()
	if got, err := Fold(x); !equal(got, y) || err != api.OK {
		t.Errorf("Fold(%v) = %v, %d, want %v", x, got, err, y)
	}
}

// wantText fails the test, if a text's tree is reckoned to that of another text.
func wantText(t *testing.T, s, folded string) {
	t.Helper()
	wantFolded(t, tree(t, s), tree(t, folded))
}

// equal holds trees against each other by what the library says, lists without elements being nil.
func equal(a, b api.Expr) bool { return reflect.DeepEqual(plain(a), plain(b)) }

func plain(x api.Expr) api.Expr {
	var kids []api.Expr
	for _, kid := range x.Kids {
		kids = append(kids, plain(kid))
	}
	x.Kids = kids
	return x
}

// copied is a tree of its own memory.
func copied(x api.Expr) api.Expr {
	x.Name = strings.Clone(x.Name)
	x.Kids = slices.Clone(x.Kids)
	for i := range x.Kids {
		x.Kids[i] = copied(x.Kids[i])
	}
	return x
}

// below is x with so many XNeg (or another kind) ahead of it.
func below(kind, n int, x api.Expr) api.Expr {
	for range n {
		if kind <= not {
			x = of(kind, x)
		} else {
			x = of(kind, variable("v"), x)
		}
	}
	return x
}

func TestExample(t *testing.T) {
	x := tree(t, "b + a < 2 * 3")
	wantTruth(t, x, true)
	wantNames(t, x, "a", "b")
	wantText(t, "b + a < 2 * 3", "b + a < 6")
	y, _ := Fold(x)
	if s, err := expr.Print(y); s != "b + a < 6" || err != api.OK {
		t.Errorf("printed %q, %d", s, err)
	}
	wantNoType(t, tree(t, "!1"), api.ErrType)
}

// 8.1

func TestWhatStandsAlone(t *testing.T) {
	wantTruth(t, num(0), false)
	wantTruth(t, num(1), false)
	wantTruth(t, num(most), false)
	wantTruth(t, variable("a"), false)
	wantTruth(t, variable("yesno"), false)
	wantTruth(t, of(yes), true)
	wantTruth(t, of(no), true)
}

// numbers and truths are trees of each kind that comes to one.
func numbers() []api.Expr {
	a, b := variable("a"), num(2)
	return []api.Expr{num(0), num(7), a, of(neg, a), of(neg, b), of(add, a, b), of(sub, b, a), of(mul, a, a), of(div, b, b), of(div, a, num(0))}
}

func truths() []api.Expr {
	a, b := variable("a"), num(2)
	return []api.Expr{of(yes), of(no), of(not, of(yes)), of(eq, a, b), of(eq, of(no), of(yes)), of(lt, b, a), of(and, of(yes), of(no)), of(or, of(no), of(no))}
}

// needs: of each sign, whether it needs numbers or truths, and whether it comes to a truth, as 8.1 lists them.
var needs = []struct {
	kind                   int
	numbers, truths, truth bool
}{
	{neg, true, false, false}, {add, true, false, false}, {sub, true, false, false}, {mul, true, false, false}, {div, true, false, false},
	{lt, true, false, true},
	{not, false, true, true}, {and, false, true, true}, {or, false, true, true},
	{eq, true, true, true},
}

func TestEachSignWithEachType(t *testing.T) {
	parts := append(numbers(), truths()...)
	first := len(numbers())
	for _, n := range needs {
		for i, x := range parts {
			fits := i < first && n.numbers || i >= first && n.truths
			if n.kind <= not {
				wantSign(t, of(n.kind, x), fits, n.truth)
				continue
			}
			for j, y := range parts {
				wantSign(t, of(n.kind, x, y), fits && (i < first) == (j < first), n.truth)
			}
		}
	}
}

func wantSign(t *testing.T, x api.Expr, fits, truth bool) {
	t.Helper()
	if fits {
		wantTruth(t, x, truth)
	} else {
		wantNoType(t, x, api.ErrType)
	}
}

func TestEqualOfEachType(t *testing.T) {
	wantTruth(t, tree(t, "1 = 2"), true)
	wantTruth(t, tree(t, "a = b"), true)
	wantTruth(t, tree(t, "yes = no"), true)
	wantTruth(t, tree(t, "(a < b) = (1 = 1)"), true)
	wantTruth(t, tree(t, "(a = b) = yes"), true)
	for _, s := range []string{"1 = yes", "yes = 1", "a = no", "no = a", "0 = no", "1 = !no", "(1 = 1) = 1", "a = (b < c)", "(a & b) = (a | b)"} {
		wantNoType(t, tree(t, s), api.ErrType)
	}
}

// A part that is not what it must be counts wherever it lies, also beside what would be enough.
func TestPartsFarBelow(t *testing.T) {
	for n := range 15 {
		wantTruth(t, below(neg, n, num(1)), false)
		wantTruth(t, below(add, n, num(1)), false)
		wantTruth(t, below(not, n, of(yes)), true)
		if n > 0 {
			wantNoType(t, below(neg, n, of(yes)), api.ErrType)
			wantNoType(t, below(add, n, of(no)), api.ErrType)
			wantNoType(t, below(not, n, num(1)), api.ErrType)
			wantNoType(t, below(not, n, variable("a")), api.ErrType)
		}
	}
	for _, s := range []string{
		"no & 1", "no & !1", "yes | 2", "yes | -yes", "no & 1 + yes < 2", "1 & no", "!1 & no", "a | b", "a & yes",
		"1 < 2 & (3 < 4 | !(5 = yes))", "1 + (2 * (3 - (4 / (5 + (6 = 7)))))", "(1 + yes) * 0", "0 * (1 < 2)", "!(a + b)", "-(a < b)",
		"(1 < 2) < 3", "1 < (2 < 3)", "yes < no", "yes + no", "yes / 0", "-no", "-!no", "!-1",
		"((a = b) = c) | yes", "yes | ((yes = no) = 1)",
	} {
		wantNoType(t, tree(t, s), api.ErrType)
	}
}

// wrong are trees that expr.Check refuses, with its errors.
func wrong() map[api.Errno][]api.Expr {
	deep := below(neg, 16, num(1))
	return map[api.Errno][]api.Expr{
		api.ErrArg: {
			{}, of(0), of(15), of(-1), of(1<<32 + 1), num(-1), num(math.MinInt64), {Kind: yes, N: 1}, {Kind: 2, N: 1, Name: "a"}, {Kind: add, N: 1, Kids: []api.Expr{num(1), num(1)}},
			{Kind: 1, Name: "a"}, {Kind: yes, Name: "yes"}, {Kind: neg, Name: "a", Kids: []api.Expr{num(1)}}, variable(""), variable("A"), variable("1a"), variable("yes"), variable("no"), variable(strings.Repeat("a", 33)),
			of(neg), of(not, of(yes), of(yes)), of(add, num(1)), of(and, of(yes), of(yes), of(yes)), of(eq), of(yes, num(1)), {Kind: 2, Name: "a", Kids: []api.Expr{num(1)}},
			of(not, num(-1)), of(and, num(1), of(99)), of(add, of(99), deep), of(not, of(neg, of(yes), num(2))), // ahead of what has no type
		},
		api.ErrLimit: {
			deep, below(not, 16, of(yes)), below(not, 16, num(1)), below(add, 16, num(1)), below(or, 16, of(no)), of(add, deep, of(99)), below(neg, 1<<14, num(1)), below(neg, 16, of(99)),
		},
	}
}

func TestRefusedByCheck(t *testing.T) {
	for err, list := range wrong() {
		for _, x := range list {
			if e := expr.Check(x); e != err {
				t.Errorf("Check(%v) = %d, want %d", x, e, err)
			}
			wantNoType(t, x, err)
			wantNames(t, x)
			wantNotRenamed(t, x, "a", "b", err)
			wantNotRenamed(t, x, "a", "B", err) // x's error ahead of that of to
		}
	}
	wantTruth(t, below(neg, 15, num(1)), false)
	wantTruth(t, below(not, 15, of(yes)), true)
}

// Check's error goes ahead of ErrType, wherever the two lie.
func TestCheckAheadOfType(t *testing.T) {
	bad := of(not, num(1))
	wantNoType(t, of(and, bad, bad), api.ErrType)
	wantNoType(t, of(and, bad, num(-1)), api.ErrArg)
	wantNoType(t, of(and, num(-1), bad), api.ErrArg)
	wantNoType(t, of(add, bad, below(neg, 15, num(1))), api.ErrLimit)
	wantNoType(t, of(add, below(neg, 15, num(1)), bad), api.ErrLimit)
	wantNoType(t, of(or, bad, variable("no")), api.ErrArg)
}

// 8.2

func TestNames(t *testing.T) {
	wantNames(t, num(1))
	wantNames(t, of(yes))
	wantNames(t, tree(t, "1 + 2 < 3 & !no"))
	wantNames(t, variable("a"), "a")
	wantNames(t, tree(t, "a + a"), "a")
	wantNames(t, tree(t, "a * a < a - -a & !(a = a)"), "a")
	wantNames(t, tree(t, "a + b"), "a", "b")
	wantNames(t, tree(t, "b + a"), "a", "b")
	wantNames(t, tree(t, "c + b - a"), "a", "b", "c")
	wantNames(t, tree(t, "c + a - b < a * c"), "a", "b", "c")
	wantNames(t, tree(t, "z = 1 | -(y / x) < z & !(w < x)"), "w", "x", "y", "z")
	wantNames(t, tree(t, "d+(a*(c-(b/(a+d))))"), "a", "b", "c", "d")
}

func TestNamesByteByByte(t *testing.T) {
	wantNames(t, tree(t, "ab + a + abc"), "a", "ab", "abc")
	wantNames(t, tree(t, "a + ab + abc"), "a", "ab", "abc")
	wantNames(t, tree(t, "abc + ab + a + ab + abc"), "a", "ab", "abc")
	wantNames(t, tree(t, "b + ab + a9 + a10 + a1"), "a1", "a10", "a9", "ab", "b") // digits ahead of letters
	wantNames(t, tree(t, "z + aa + az + za"), "aa", "az", "z", "za")
	wantNames(t, tree(t, "yesno + no1 + yes1 + n"), "n", "no1", "yes1", "yesno")
	long := strings.Repeat("q", 31)
	wantNames(t, of(add, variable(long+"r"), of(add, variable(long), variable(long+"q"))), long, long+"q", long+"r")
}

// Names asks for no types.
func TestNamesOfWhatHasNoType(t *testing.T) {
	wantNames(t, tree(t, "!a"), "a")
	wantNames(t, tree(t, "b & a + yes"), "a", "b")
	wantNames(t, of(eq, of(yes), variable("a")), "a")
}

// What is not reached when it is reckoned is asked for, too.
func TestNamesOfWhatIsNotReached(t *testing.T) {
	wantNames(t, tree(t, "no & b < a"), "a", "b")
	wantNames(t, tree(t, "yes | a = 0 * c"), "a", "c")
}

func TestManyNames(t *testing.T) {
	x, want := widest(func(at int) api.Expr { return variable("v" + letters(at*7919%4096)) }), []string{}
	for i := range 4096 {
		want = append(want, "v"+letters(i))
	}
	if got := Names(x); !slices.Equal(got, want) {
		t.Errorf("%d names, of %d, from %q on", len(got), len(want), got[:min(5, len(got))])
	}
}

// letters is a number as three letters, which rise as the number does.
func letters(n int) string {
	return string([]byte{'a' + byte(n/256), 'a' + byte(n/16%16), 'a' + byte(n%16)})
}

// widest is a tree of sums with as many leaves as one may have.
func widest(leaf func(at int) api.Expr) api.Expr {
	var row []api.Expr
	for i := range 1 << 15 {
		row = append(row, leaf(i))
	}
	for len(row) > 1 {
		var above []api.Expr
		for i := 0; i < len(row); i += 2 {
			above = append(above, of(add, row[i], row[i+1]))
		}
		row = above
	}
	return row[0]
}

// 8.3

func TestRename(t *testing.T) {
	for _, c := range []struct{ s, from, to, renamed string }{
		{"a", "a", "b", "b"},
		{"a", "b", "c", "a"},
		{"b", "a", "b", "b"},
		{"a + b", "a", "c", "c + b"},
		{"a + b", "b", "c", "a + c"},
		{"a + b", "a", "b", "b + b"},
		{"a + b", "b", "a", "a + a"},
		{"a + b * a < -a & !(a = c) | a / 2 = 3 - a", "a", "x", "x + b * x < -x & !(x = c) | x / 2 = 3 - x"},
		{"a + b * a", "b", "a", "a + a * a"},
		{"a + b", "a", "a", "a + b"},
		{"a + b", "x", "y", "a + b"},
		{"a + b", "x", "x", "a + b"},
		{"a + b", "x", "a", "a + b"},
		{"1 + 2 < 3", "a", "b", "1 + 2 < 3"},
		{"yes & no", "a", "b", "yes & no"},
		{"a + ab + abc", "a", "x", "x + ab + abc"},
		{"a + ab + abc", "ab", "x", "a + x + abc"},
		{"a + ab + abc", "abc", "ab", "a + ab + ab"},
		{"a + ab + abc", "abcd", "x", "a + ab + abc"},
		{"a + b", "a", "yesno", "yesno + b"},
	} {
		wantRenamed(t, tree(t, c.s), c.from, c.to, tree(t, c.renamed))
	}
	long := strings.Repeat("z", 32)
	wantRenamed(t, tree(t, "a + 1"), "a", long, of(add, variable(long), num(1)))
}

// Whatever from is: what has no such variable stays as it is.
func TestRenameFromNoName(t *testing.T) {
	for _, from := range []string{"", "yes", "no", "A", "1", "a b", "a ", "\xff", strings.Repeat("a", 5000)} {
		for _, s := range []string{"a + b", "yes", "no", "1", "yes & !no | 0 < a"} {
			wantRenamed(t, tree(t, s), from, "c", tree(t, s))
		}
	}
}

func TestRenameToNoName(t *testing.T) {
	for _, to := range []string{"", "yes", "no", "A", "aB", "1", "1a", "a b", " a", "a ", "a_", "é", "\xff", "a\x00", "-a", strings.Repeat("a", 33), strings.Repeat("a", 5000)} {
		wantNotRenamed(t, variable("a"), "a", to, api.ErrArg)
		wantNotRenamed(t, tree(t, "a + b"), "b", to, api.ErrArg)
		wantNotRenamed(t, tree(t, "a + b"), "x", to, api.ErrArg) // though there is nothing to be renamed
		wantNotRenamed(t, num(1), to, to, api.ErrArg)
		wantNotRenamed(t, below(neg, 16, num(1)), "a", to, api.ErrLimit)
	}
}

// Rename asks for no types.
func TestRenameWhatHasNoType(t *testing.T) {
	wantRenamed(t, tree(t, "!a & -yes"), "a", "b", tree(t, "!b & -yes"))
}

func TestRenameReckonsNothing(t *testing.T) {
	wantRenamed(t, tree(t, "1 + 2 < a & (yes | no)"), "a", "b", tree(t, "1 + 2 < b & (yes | no)"))
}

// 8.4

func TestReckonedNumbers(t *testing.T) {
	for _, c := range []struct{ s, folded string }{
		{"1 + 2", "3"}, {"0 + 0", "0"}, {"7 - 3", "4"}, {"7 - 7", "0"}, {"0 - 0", "0"}, {"6 * 7", "42"}, {"0 * 9", "0"}, {"9 * 0", "0"},
		{"6 / 2", "3"}, {"7 / 2", "3"}, {"8 / 3", "2"}, {"1 / 2", "0"}, {"0 / 5", "0"}, {"5 / 5", "1"}, {"999 / 1000", "0"}, {"1999 / 1000", "1"},
		{"3 - 4", "3 - 4"}, {"0 - 1", "0 - 1"}, {"0 - 9223372036854775807", "0 - 9223372036854775807"},
		{"1 / 0", "1 / 0"}, {"0 / 0", "0 / 0"},
		{"1 < 2", "yes"}, {"2 < 1", "no"}, {"1 < 1", "no"}, {"0 < 9223372036854775807", "yes"}, {"9223372036854775807 < 0", "no"}, {"9223372036854775807 < 9223372036854775807", "no"},
		{"1 = 1", "yes"}, {"1 = 2", "no"}, {"2 = 1", "no"}, {"0 = 0", "yes"}, {"9223372036854775807 = 9223372036854775807", "yes"}, {"9223372036854775807 = 9223372036854775806", "no"},
	} {
		wantText(t, c.s, c.folded)
	}
}

func TestSumsAtTheEdge(t *testing.T) {
	const half = 1 << 62
	for _, c := range []struct{ a, b, sum int64 }{
		{most, 0, most}, {0, most, most}, {most - 1, 1, most}, {1, most - 1, most}, {half, half - 1, most}, {half - 1, half, most}, {most - 7, 6, most - 1},
	} {
		wantFolded(t, of(add, num(c.a), num(c.b)), num(c.sum))
		wantFolded(t, of(sub, num(c.sum), num(c.b)), num(c.a))
	}
	for _, c := range [][2]int64{{most, 1}, {1, most}, {most - 1, 2}, {half, half}, {most, most}, {half + 1, half - 1}} {
		wantStays(t, of(add, num(c[0]), num(c[1])))
	}
}

// wantStays fails the test, if a tree is reckoned to another one.
func wantStays(t *testing.T, x api.Expr) {
	t.Helper()
	wantFolded(t, x, x)
}

func TestProductsAtTheEdge(t *testing.T) {
	for _, c := range []struct{ a, b, product int64 }{
		{most, 1, most}, {1, most, most}, {most, 0, 0}, {0, most, 0}, {7, 1317624576693539401, most}, {1317624576693539401, 7, most}, // 2^63 - 1 = 7 * 7 * 73 * 127 * ..
		{1 << 31, 1<<32 - 1, 1<<63 - 1<<31}, {3037000499, 3037000499, 9223372030926249001}, {1 << 61, 3, 3 << 61}, {1 << 31, 1 << 31, 1 << 62},
	} {
		wantFolded(t, of(mul, num(c.a), num(c.b)), num(c.product))
	}
	for _, c := range [][2]int64{
		{1 << 32, 1 << 31}, {1 << 31, 1 << 32}, {2, 1 << 62}, {1 << 62, 2}, {4, 1 << 62}, // 2^63, 2^64
		{3037000500, 3037000500}, {most, 2}, {most, most}, {1 << 32, 1 << 32}, {1 << 62, 1 << 62}, {1<<32 + 1, 1 << 32}, {3, 1 << 62}, // behind 2^63; with low bits that would be one below
		{1<<33 + 1, 1<<31 + 1}, {1 << 40, 1 << 40}, {7, 1317624576693539402},
	} {
		wantStays(t, of(mul, num(c[0]), num(c[1])))
	}
}

func TestDifferencesAndQuotientsAtTheEdge(t *testing.T) {
	wantFolded(t, of(sub, num(most), num(most)), num(0))
	wantFolded(t, of(sub, num(most), num(0)), num(most))
	wantFolded(t, of(sub, num(most), num(most-1)), num(1))
	wantStays(t, of(sub, num(most-1), num(most)))
	wantFolded(t, of(div, num(most), num(1)), num(most))
	wantFolded(t, of(div, num(most), num(most)), num(1))
	wantFolded(t, of(div, num(most-1), num(most)), num(0))
	wantFolded(t, of(div, num(most), num(2)), num(1<<62-1))
	wantStays(t, of(div, num(most), num(0)))
}

// A sign of one known side alone stays, even if it could be told.
func TestOneSideKnown(t *testing.T) {
	a := variable("a")
	for _, kind := range []int{add, sub, mul, div, eq, lt} {
		for _, n := range []int64{0, 1, 5, most} {
			wantStays(t, of(kind, a, num(n)))
			wantStays(t, of(kind, num(n), a))
			wantStays(t, of(kind, num(n), of(neg, num(1))))
			wantStays(t, of(kind, of(div, num(n), num(0)), num(n)))
		}
		wantStays(t, of(kind, a, a))
	}
	for _, known := range []int{yes, no} {
		wantStays(t, of(eq, of(known), of(lt, a, num(1))))
		wantStays(t, of(eq, of(lt, a, num(1)), of(known)))
	}
}

func TestEqualTruths(t *testing.T) {
	wantText(t, "yes = yes", "yes")
	wantText(t, "no = no", "yes")
	wantText(t, "yes = no", "no")
	wantText(t, "no = yes", "no")
	wantText(t, "(1 = 1) = (2 < 1)", "no")
	wantText(t, "(1 = 2) = (2 < 1)", "yes")
}

func TestAndOr(t *testing.T) {
	for _, c := range []struct{ s, folded string }{
		{"yes & yes", "yes"}, {"yes & no", "no"}, {"no & yes", "no"}, {"no & no", "no"},
		{"yes | yes", "yes"}, {"yes | no", "yes"}, {"no | yes", "yes"}, {"no | no", "no"},
		{"no & a < b", "no"}, {"yes & a < b", "a < b"}, {"yes | a < b", "yes"}, {"no | a < b", "a < b"},
		{"a < b & no", "a < b & no"}, {"a < b & yes", "a < b & yes"}, {"a < b | no", "a < b | no"}, {"a < b | yes", "a < b | yes"},
		{"yes & a < 1 + 2", "a < 3"}, {"no | !(1 < 2)", "no"}, {"a < b & 1 < 2", "a < b & yes"}, {"a < b | !yes", "a < b | no"},
		{"1 < 2 & a = b", "a = b"}, {"!yes & a = b", "no"}, {"2 < 1 | a = b", "a = b"}, {"1 = 1 | a = b", "yes"},
		{"no & 1 / 0 < a | yes", "yes"}, {"yes | 1 / 0 = 0", "yes"}, {"yes & 1 / 0 = 0", "1 / 0 = 0"}, {"no | 1 / 0 = 0", "1 / 0 = 0"},
		{"1 / 0 = 0 & no", "1 / 0 = 0 & no"},
		{"yes & (yes & (yes & a = b))", "a = b"}, {"yes & yes & yes & a = b", "a = b"}, {"yes & (no | (yes & a = b))", "a = b"},
		{"a = b & yes & no", "a = b & yes & no"},
		{"yes & (a = b | no)", "a = b | no"},
	} {
		wantText(t, c.s, c.folded)
	}
}

func TestNot(t *testing.T) {
	wantText(t, "!yes", "no")
	wantText(t, "!no", "yes")
	wantText(t, "!!yes", "yes")
	wantText(t, "!!!no", "yes")
	wantText(t, "!(1 < 2)", "no")
	wantText(t, "!(1 = 2)", "yes")
	wantText(t, "!(a < b)", "!(a < b)")
	wantText(t, "!!(a < b)", "!!(a < b)")
	wantText(t, "!(yes & a < b)", "!(a < b)")
	wantText(t, "!(no & a < b)", "yes")
}

func TestNeg(t *testing.T) {
	wantText(t, "-0", "0")
	wantText(t, "--0", "0")
	wantText(t, "-(7 - 7)", "0")
	wantText(t, "-1", "-1")
	wantText(t, "--1", "--1")
	wantText(t, "-9223372036854775807", "-9223372036854775807")
	wantText(t, "-(1 + 2)", "-3")
	wantText(t, "-a", "-a")
	wantText(t, "-(a * 0)", "-(a * 0)")
	wantText(t, "1 - -1", "1 - -1")
	wantText(t, "-1 + 1", "-1 + 1")
	wantText(t, "-0 + 1", "1")
	wantText(t, "-1 = -1", "-1 = -1")
	wantText(t, "-1 < 0", "-1 < 0")
	wantText(t, "-0 < 1", "yes")
}

func TestFromBelow(t *testing.T) {
	for _, c := range []struct{ s, folded string }{
		{"1 + 2 * 3 - 8 / 4", "5"},
		{"(1 + 2) * (3 + 4) = 21", "yes"},
		{"a + (1 + 2)", "a + 3"},
		{"a + 1 + 2", "a + 1 + 2"}, // its left part is not known
		{"1 + 2 + a", "3 + a"},
		{"(1 + 2) * a / (3 - 3)", "3 * a / 0"},
		{"1 / (2 - 2)", "1 / 0"},
		{"1 / (1 / 2)", "1 / 0"},
		{"1 + 2 - 4 + 5", "3 - 4 + 5"},
		{"9223372036854775807 + 1 - 1", "9223372036854775807 + 1 - 1"},
		{"9223372036854775807 + (1 - 1)", "9223372036854775807"},
		{"9223372036854775806 + (3 - 2)", "9223372036854775807"},
		{"0 * (1 / 0)", "0 * (1 / 0)"},
		{"1 / 0 = 1 / 0", "1 / 0 = 1 / 0"},
		{"!(2 * 3 < 7) | a = 2 + 2", "a = 4"},
		{"(1 < 2) = (yes & no)", "no"},
		{"!(-(3 - 3) < 1) | (yes = no) = no", "yes"},
		{"-(4 / 5) + a", "0 + a"},
		{"a < 1 & 2 < 3 & !yes", "a < 1 & yes & no"},
		{"(yes & a < 2 * 3) = (no | b = 7 / 2)", "(a < 6) = (b = 3)"},
	} {
		wantText(t, c.s, c.folded)
	}
}

func TestStays(t *testing.T) {
	for _, s := range []string{"0", "1", "9223372036854775807", "a", "yes", "no", "a + b", "a < 6", "-a", "-5", "a = b & b < c | !(c = 1)", "a + 0", "0 + a", "a * 1", "a / 1", "a - 0", "a - a", "a = a", "a < a", "!!(a = b)", "--a", "1 / 0", "2 - 3", "(a = b) = yes", "a = b | yes"} {
		wantText(t, s, s)
	}
	wantStays(t, below(neg, 15, num(1)))
	wantFolded(t, below(neg, 15, num(0)), num(0))
	wantFolded(t, below(not, 15, of(yes)), of(no))
	wantFolded(t, below(not, 14, of(yes)), of(yes))
}

func TestWidest(t *testing.T) {
	wantFolded(t, widest(func(at int) api.Expr { return num(int64(at)) }), num(1<<14*(1<<15-1)))
	x := widest(func(at int) api.Expr { return variable("a") })
	wantTruth(t, x, false)
	wantNames(t, x, "a")
	wantStays(t, x)
	wantRenamed(t, x, "a", "b", widest(func(at int) api.Expr { return variable("b") }))
}

// 8.5, and all of it against what another code says.

// chance is trees by chance, the same in each run.
type chance struct{ at uint64 }

func dice(seed uint64) *chance { return &chance{at: seed*6364136223846793005 + 1442695040888963407} }

func (c *chance) next(n int) int {
	c.at = c.at*6364136223846793005 + 1442695040888963407
	return int(c.at>>33) % n
}

// tree is one that comes to a truth, or to a number, at most so high; slips of a hundred parts come to the other.
func (c *chance) tree(truth bool, high, slips int) api.Expr {
	if c.next(100) < slips {
		truth = !truth
	}
	if high == 1 || c.next(5) == 0 {
		return c.leaf(truth)
	}
	kid := func(truth bool) api.Expr { return c.tree(truth, high-1, slips) }
	if !truth {
		kind := []int{neg, add, sub, mul, div}[c.next(5)]
		if kind == neg {
			return of(neg, kid(false))
		}
		return of(kind, kid(false), kid(false))
	}
	kind := []int{not, and, or, lt, eq, eq}[c.next(6)]
	switch kind {
	case not:
		return of(not, kid(true))
	case lt:
		return of(lt, kid(false), kid(false))
	case eq:
		both := c.next(2) == 0
		return of(eq, kid(both), kid(both))
	}
	return of(kind, kid(true), kid(true))
}

func (c *chance) leaf(truth bool) api.Expr {
	switch {
	case truth:
		return of(yes + c.next(2))
	case c.next(5) == 0:
		return variable([]string{"a", "ab", "b", "yes1", "x0"}[c.next(5)])
	}
	return num([]int64{0, 1, 2, 3, 7, 10, 1 << 31, 1 << 62, most - 1, most}[c.next(10)])
}

// typed is what 8.1 says of a tree that Check lets be, by the table of signs: '?' is ErrType.
func typed(x api.Expr) byte {
	switch x.Kind {
	case 1, 2:
		return 'n'
	case yes, no:
		return 't'
	}
	var parts []byte
	for _, kid := range x.Kids {
		parts = append(parts, typed(kid))
	}
	for _, n := range needs {
		if n.kind != x.Kind {
			continue
		}
		all := len(parts)
		if n.numbers && strings.Count(string(parts), "n") == all || n.truths && strings.Count(string(parts), "t") == all {
			return map[bool]byte{true: 't', false: 'n'}[n.truth]
		}
	}
	return '?'
}

// step is a tree with the first of its nodes reckoned, from below, of which something is known; false, if there is none.
func step(x api.Expr) (api.Expr, bool) {
	for i, kid := range x.Kids {
		if y, ok := step(kid); ok {
			x.Kids = slices.Clone(x.Kids)
			x.Kids[i] = y
			return x, true
		}
	}
	return reckoned(x)
}

// reckoned is what a node comes to by one of the rules of 8.4.
func reckoned(x api.Expr) (api.Expr, bool) {
	yesOr := func(is bool) api.Expr {
		if is {
			return of(yes)
		}
		return of(no)
	}
	var kinds []int
	for _, kid := range x.Kids {
		kinds = append(kinds, kid.Kind)
	}
	switch {
	case x.Kind == and && kinds[0] == no, x.Kind == or && kinds[0] == yes:
		return x.Kids[0], true
	case x.Kind == and && kinds[0] == yes, x.Kind == or && kinds[0] == no:
		return x.Kids[1], true
	case x.Kind == not && kinds[0] == yes:
		return of(no), true
	case x.Kind == not && kinds[0] == no:
		return of(yes), true
	case x.Kind == neg && kinds[0] == 1 && x.Kids[0].N == 0:
		return num(0), true
	case x.Kind == eq && (kinds[0] == yes || kinds[0] == no) && (kinds[1] == yes || kinds[1] == no):
		return yesOr(kinds[0] == kinds[1]), true
	case x.Kind >= add && x.Kind <= lt && kinds[0] == 1 && kinds[1] == 1:
		a, b := big.NewInt(x.Kids[0].N), big.NewInt(x.Kids[1].N)
		if x.Kind == eq || x.Kind == lt {
			return yesOr(a.Cmp(b) == map[int]int{eq: 0, lt: -1}[x.Kind]), true
		}
		return exact(x.Kind, a, b)
	}
	return x, false
}

// exact is a sum, a difference, a product or a quotient, if it is a number from 0 on and below 2^63.
func exact(kind int, a, b *big.Int) (api.Expr, bool) {
	n := new(big.Int)
	switch {
	case kind == add:
		n.Add(a, b)
	case kind == sub:
		n.Sub(a, b)
	case kind == mul:
		n.Mul(a, b)
	case b.Sign() != 0:
		n.Quo(a, b)
	default:
		return of(div, num(a.Int64()), num(0)), false
	}
	if n.Sign() < 0 || n.BitLen() > 63 {
		return of(kind, num(a.Int64()), num(b.Int64())), false
	}
	return num(n.Int64()), true
}

// asked is the names of a tree, by a set.
func asked(x api.Expr) []string {
	set := map[string]int{}
	var walk func(x api.Expr)
	walk = func(x api.Expr) {
		if x.Kind == 2 {
			set[x.Name]++
		}
		for _, kid := range x.Kids {
			walk(kid)
		}
	}
	walk(x)
	var names []string
	for name := range set {
		names = append(names, name)
	}
	slices.Sort(names)
	return names
}

func TestAgainstSteps(t *testing.T) {
	count := map[byte]int{}
	for seed := range uint64(12000) {
		c := dice(seed)
		x := c.tree(c.next(2) == 0, 1+c.next(7), c.next(3))
		before := copied(x)
		is := typed(x)
		count[is]++
		wantNames(t, x, asked(x)...)
		if is == '?' {
			wantNoType(t, x, api.ErrType)
		} else {
			wantTruth(t, x, is == 't')
			wantReckoned(t, x, is == 't')
		}
		if !equal(x, before) {
			t.Fatalf("%v was changed to %v", before, x)
		}
	}
	if count['?'] < 500 || count['n'] < 2000 || count['t'] < 2000 {
		t.Errorf("too few of a type: %v", count)
	}
}

// wantReckoned fails the test, if a tree is reckoned otherwise than step by step, or 8.5 does not hold of it.
func wantReckoned(t *testing.T, x api.Expr, truth bool) {
	t.Helper()
	last := copied(x)
	for more := true; more; {
		last, more = step(last)
	}
	wantFolded(t, x, last)
	y, _ := Fold(x)
	wantTruth(t, y, truth)
	wantStays(t, y)
	names := Names(x)
	for _, name := range Names(y) {
		if !slices.Contains(names, name) {
			t.Errorf("Fold(%v) = %v asks for %q, too", x, y, name)
		}
	}
}

// A variable that is renamed is asked for by its new name, and back again it is what it was, if that name was new.
func TestRenamedThereAndBack(t *testing.T) {
	for seed := range uint64(2000) {
		c := dice(seed)
		x := c.tree(c.next(2) == 0, 1+c.next(6), c.next(3))
		before := copied(x)
		from := []string{"a", "ab", "b", "yes1", "x0", "none"}[c.next(6)]
		y, err := Rename(x, from, "new")
		if err != api.OK || slices.Contains(Names(y), from) || slices.Contains(Names(y), "new") != slices.Contains(Names(x), from) {
			t.Errorf("Rename(%v, %q, new) = %v, %d", x, from, y, err)
		}
		wantRenamed(t, y, "new", from, x)
		if !equal(x, before) {
			t.Fatalf("%v was changed to %v", before, x)
		}
	}
}

// R3

// What is answered is new memory: its lists have no room, none of them is another's, and no text is an argument's.
func TestNewMemory(t *testing.T) {
	text := strings.Clone("abcdef")
	x := of(and, of(lt, of(add, variable(text[:3]), num(1)), of(neg, variable(text[3:]))), of(eq, variable(text[:3]), variable(text[:2])))
	x = of(or, of(no), of(and, x, of(not, x))) // the same lists, twice in one tree
	lists := map[*api.Expr]string{}
	var own func(where string, x api.Expr)
	own = func(where string, x api.Expr) {
		if cap(x.Kids) > len(x.Kids) {
			t.Errorf("%s: %v has room behind it", where, x.Kids)
		}
		if at := unsafe.SliceData(x.Kids); len(x.Kids) > 0 {
			if other := lists[at]; other != "" && where != "argument" {
				t.Errorf("%s: %v is a list of %s", where, x.Kids, other)
			}
			lists[at] = where
		}
		if where != "argument" && within(x.Name, text) {
			t.Errorf("%s: %q lies in an argument's memory", where, x.Name)
		}
		for _, kid := range x.Kids {
			own(where, kid)
		}
	}
	own("argument", x)
	for range 2 {
		y, _ := Fold(x)
		own("Fold", y)
		y, _ = Rename(x, "abc", text[1:4])
		own("Rename", y)
		y, _ = Rename(x, "none", text[1:4])
		own("Rename of nothing", y)
		y, _ = Fold(variable(text))
		own("Fold", y)
		names := Names(x)
		if cap(names) > len(names) {
			t.Errorf("%q has room behind it", names)
		}
		for _, name := range names {
			if within(name, text) {
				t.Errorf("%q lies in an argument's memory", name)
			}
		}
	}
}

// within: does a text lie in another one's memory?
func within(s, all string) bool {
	at, from := uintptr(unsafe.Pointer(unsafe.StringData(s))), uintptr(unsafe.Pointer(unsafe.StringData(all)))
	return s != "" && from <= at && at < from+uintptr(len(all))
}

// What lies behind a list's length is no part of a tree.
func TestBehindTheLength(t *testing.T) {
	kids := []api.Expr{num(1), variable("a"), variable("z"), num(-1), of(99)}
	before := slices.Clone(kids)
	x := api.Expr{Kind: add, Kids: kids[:2]}
	wantTruth(t, x, false)
	wantNames(t, x, "a")
	wantRenamed(t, x, "a", "b", of(add, num(1), variable("b")))
	wantFolded(t, x, of(add, num(1), variable("a")))
	y := api.Expr{Kind: yes, Kids: kids[:0]}
	wantTruth(t, y, true)
	wantNames(t, y)
	wantRenamed(t, y, "a", "b", of(yes))
	wantFolded(t, y, of(yes))
	wantFolded(t, api.Expr{Kind: not, Kids: []api.Expr{y}}, of(no))
	if !reflect.DeepEqual(kids, before) {
		t.Error("the list was changed")
	}
}

// P0, P6: the same call answers the same, whatever came ahead of it.
func TestCallsDoNotHangOnOthers(t *testing.T) {
	for seed := range uint64(300) {
		c := dice(seed)
		x := c.tree(c.next(2) == 0, 1+c.next(6), c.next(3))
		names := Names(x)
		y, err := Fold(x)
		Names(variable("other"))
		Fold(of(not, num(1)))
		z, again := Fold(x)
		if !equal(y, z) || err != again || !slices.Equal(names, Names(x)) {
			t.Errorf("twice, of %v: %v, %d and %v, %d", x, y, err, z, again)
		}
	}
}
