package expr

import (
	"math"
	"reflect"
	"slices"
	"strings"
	"testing"
	"unsafe"

	"funicular/api"
	"funicular/lex"
)

// Trees as promise 7.2 says them.
func num(n int64) api.Expr { return api.Expr{Kind: 1, N: n} }

func variable(name string) api.Expr { return api.Expr{Kind: 2, Name: name} }

func truth(is bool) api.Expr {
	if is {
		return api.Expr{Kind: 3}
	}
	return api.Expr{Kind: 4}
}

func of(kind int, kids ...api.Expr) api.Expr { return api.Expr{Kind: kind, Kids: kids} }

// pairSigns is the signs between two, with their kinds and rows as promise 7.1 names them.
var pairSigns = []pairSign{
	{"|", 14, 1}, {"&", 13, 2}, {"=", 11, 3}, {"<", 12, 3}, {"+", 7, 4}, {"-", 8, 4}, {"*", 9, 5}, {"/", 10, 5},
}

type pairSign struct {
	text      string
	kind, row int
}

const (
	equalRow = 3
	neg      = 5
	not      = 6
	add      = 7
	sub      = 8
	mul      = 9
	or       = 14
)

// want fails the test, if a text is another tree, or a fault.
func want(t *testing.T, s string, tree api.Expr) {
	t.Helper()
	got, fault := Parse(s)
	if !equal(got, tree) || fault != (api.Fault{}) {
		t.Errorf("Parse(%q) = %v, %v, want %v", s, got, fault, tree)
	}
}

// wantFault fails the test, if a text is a tree, or another fault.
func wantFault(t *testing.T, s string, err api.Errno, at int) {
	t.Helper()
	got, fault := Parse(s)
	if !reflect.DeepEqual(got, api.Expr{}) || fault != (api.Fault{Err: err, At: at}) {
		t.Errorf("Parse(%q) = %v, %v, want error %d at %d", s, got, fault, err, at)
	}
}

// wantText fails the test, if a tree has another text, or none.
func wantText(t *testing.T, tree api.Expr, s string) {
	t.Helper()
	if got, err := Print(tree); got != s || err != api.OK {
		t.Errorf("Print(%v) = %q, %d, want %q", tree, got, err, s)
	}
}

// wantNoText fails the test, if a tree has a text, or another error.
func wantNoText(t *testing.T, tree api.Expr, err api.Errno) {
	t.Helper()
	if got, e := Print(tree); got != "" || e != err {
		t.Errorf("Print(%v) = %q, %d, want error %d", tree, got, e, err)
	}
}

// equal holds trees against each other by what the library says, lists without elements being nil.
func equal(a, b api.Expr) bool { return reflect.DeepEqual(plain(a), plain(b)) }

func plain(x api.Expr) api.Expr {
	var kids []api.Expr
	for _, kid := range x.Kids {
		kids = append(kids, plain(kid))
	}
	x.Kids = kids
	return x
}

func repeat(s string, n int) string { return strings.Repeat(s, n) }

func TestExample(t *testing.T) {
	x, fault := Parse("a+1*2<b | !(no)")
	if fault != (api.Fault{}) {
		t.Fatal(fault)
	}
	wantText(t, x, "a + 1 * 2 < b | !no")
	want(t, "a+1*2<b | !(no)", of(14, of(12, of(7, variable("a"), of(9, num(1), num(2))), variable("b")), of(6, truth(false))))
	wantFault(t, "a < b < c", api.ErrSyntax, 6)
}

// 7.1

func TestEachSignBesideEachOther(t *testing.T) {
	a, b, c := variable("a"), variable("b"), variable("c")
	for _, p := range pairSigns {
		want(t, "a"+p.text+"b", of(p.kind, a, b))
		for _, q := range pairSigns {
			s := "a " + p.text + " b " + q.text + " c"
			switch {
			case p.row == equalRow && q.row == equalRow:
				wantFault(t, s, api.ErrSyntax, 6)
			case p.row >= q.row:
				want(t, s, of(q.kind, of(p.kind, a, b), c))
			default:
				want(t, s, of(p.kind, a, of(q.kind, b, c)))
			}
			want(t, "(a"+p.text+"b)"+q.text+"c", of(q.kind, of(p.kind, a, b), c))
			want(t, "a"+p.text+"(b"+q.text+"c)", of(p.kind, a, of(q.kind, b, c)))
		}
	}
}

func TestRowsGoToTheLeft(t *testing.T) {
	a, b, c, d := variable("a"), variable("b"), variable("c"), variable("d")
	want(t, "a-b-c-d", of(8, of(8, of(8, a, b), c), d))
	want(t, "a-b+c-d", of(8, of(7, of(8, a, b), c), d))
	want(t, "a/b*c/d", of(10, of(9, of(10, a, b), c), d))
	want(t, "a|b|c|d", of(14, of(14, of(14, a, b), c), d))
	want(t, "a&b&c&d", of(13, of(13, of(13, a, b), c), d))
	want(t, "a*b+c*d", of(7, of(9, a, b), of(9, c, d)))
	want(t, "a-b*c-d", of(8, of(8, a, of(9, b, c)), d))
	want(t, "a|b&c|d", of(14, of(14, a, of(13, b, c)), d))
	want(t, "a=b&c<d", of(13, of(11, a, b), of(12, c, d)))
	want(t, "a+b<c*d", of(12, of(7, a, b), of(9, c, d)))
	want(t, "a<b|c=d", of(14, of(12, a, b), of(11, c, d)))
}

func TestAllRowsAtOnce(t *testing.T) {
	v := func(s string) api.Expr { return variable(s) }
	want(t, "a|b&c=d+e*f", of(14, v("a"), of(13, v("b"), of(11, v("c"), of(7, v("d"), of(9, v("e"), v("f")))))))
	want(t, "a/b-c<d&e|f", of(14, of(13, of(12, of(8, of(10, v("a"), v("b")), v("c")), v("d")), v("e")), v("f")))
	want(t, "a*b|c*d", of(14, of(9, v("a"), v("b")), of(9, v("c"), v("d"))))
	want(t, "a|b*c|d", of(14, of(14, v("a"), of(9, v("b"), v("c"))), v("d")))
	want(t, "a*b<c-d/e&f", of(13, of(12, of(9, v("a"), v("b")), of(8, v("c"), of(10, v("d"), v("e")))), v("f")))
}

func TestJustOneOfEqualAndLess(t *testing.T) {
	a, b, c := variable("a"), variable("b"), variable("c")
	for _, p := range []string{"=", "<"} {
		for _, q := range []string{"=", "<"} {
			wantFault(t, "a"+p+"b"+q+"c", api.ErrSyntax, 3)
			wantFault(t, "a"+p+"b"+q, api.ErrSyntax, 3)
			wantFault(t, "a"+p+"b"+q+")", api.ErrSyntax, 3)
			wantFault(t, "a"+p+"b+c*d"+q+"e", api.ErrSyntax, 7)
			wantFault(t, "a-b"+p+"-c"+q+"e", api.ErrSyntax, 6)
			wantFault(t, "(a"+p+"b)"+q+"c"+p+"d", api.ErrSyntax, 7)
			wantFault(t, "a"+p+"(b"+q+"c)"+q+"d", api.ErrSyntax, 7)
			wantFault(t, "x&a"+p+"b"+q+"c", api.ErrSyntax, 5)
			wantFault(t, "x|y&a"+p+"b"+q+"c", api.ErrSyntax, 7)
			wantFault(t, "(a"+p+"b"+q+"c)", api.ErrSyntax, 4)
			wantFault(t, "!(a"+p+"b"+q+"c)", api.ErrSyntax, 5)
			wantFault(t, "a"+p+"b&c"+q+"d"+p+"e", api.ErrSyntax, 7)
			wantFault(t, "a"+p+q+"b", api.ErrSyntax, 2)
		}
	}
	want(t, "(a<b)<c", of(12, of(12, a, b), c))
	want(t, "((a<b))=c", of(11, of(12, a, b), c))
	want(t, "a=(b=c)", of(11, a, of(11, b, c)))
	want(t, "(a=b)<(b=c)", of(12, of(11, a, b), of(11, b, c)))
	want(t, "a=b&b=c&c<a", of(13, of(13, of(11, a, b), of(11, b, c)), of(12, c, a)))
	want(t, "a=b|b=c", of(14, of(11, a, b), of(11, b, c)))
}

func TestAheadOfOne(t *testing.T) {
	a, b := variable("a"), variable("b")
	want(t, "-a", of(5, a))
	want(t, "!a", of(6, a))
	want(t, "- 7", of(5, num(7)))
	want(t, "--a", of(5, of(5, a)))
	want(t, "!!a", of(6, of(6, a)))
	want(t, "-!a", of(5, of(6, a)))
	want(t, "!-a", of(6, of(5, a)))
	want(t, "-!-!yes", of(5, of(6, of(5, of(6, truth(true))))))
	for _, p := range pairSigns {
		for kind, one := range map[int]string{5: "-", 6: "!"} {
			want(t, one+"a"+p.text+"b", of(p.kind, of(kind, a), b))
			want(t, "a"+p.text+one+"b", of(p.kind, a, of(kind, b)))
			want(t, one+one+"a"+p.text+one+one+"b", of(p.kind, of(kind, of(kind, a)), of(kind, of(kind, b))))
			want(t, one+"(a"+p.text+"b)", of(kind, of(p.kind, a, b)))
			want(t, one+"(a)"+p.text+"b", of(p.kind, of(kind, a), b))
		}
	}
	want(t, "a - - b", of(8, a, of(5, b)))
	want(t, "a---b", of(8, a, of(5, of(5, b))))
}

func TestBracketsLeaveNoTrace(t *testing.T) {
	a, b := variable("a"), variable("b")
	want(t, "(a)", a)
	want(t, "((((7))))", num(7))
	want(t, "((yes))", truth(true))
	want(t, "(a)+(b)", of(7, a, b))
	want(t, "((a)+((b)))", of(7, a, b))
	want(t, "(-(a))", of(5, a))
	want(t, "((a+b))*b", of(9, of(7, a, b), b))
	want(t, "a-((b-a)-b)", of(8, a, of(8, of(8, b, a), b)))
	want(t, " ( a + b ) ", of(7, a, b))
}

// 7.2

func TestNodes(t *testing.T) {
	want(t, "0", num(0))
	want(t, "007", num(7))
	want(t, "9223372036854775807", num(math.MaxInt64))
	want(t, "yes", truth(true))
	want(t, "no", truth(false))
	for _, name := range []string{"a", "z9", "ye", "yess", "yes1", "n", "not", "no0", "on", "sey", repeat("k", 32)} {
		want(t, name, variable(name))
		want(t, "  "+name+" ", variable(name))
	}
	want(t, "yes&no", of(13, truth(true), truth(false)))
	want(t, "!yes=-no", of(11, of(6, truth(true)), of(5, truth(false))))
	want(t, "a=a", of(11, variable("a"), variable("a")))
	want(t, "1+2", of(7, num(1), num(2)))
}

// 7.3

func TestFaultsOfWords(t *testing.T) {
	for s, fault := range map[string]api.Fault{
		"A":                            {Err: api.ErrSyntax, At: 0},
		"a + B":                        {Err: api.ErrSyntax, At: 4},
		"a b c 1d":                     {Err: api.ErrSyntax, At: 7}, // ahead of what is wrong with a b
		") 9223372036854775808":        {Err: api.ErrOverflow, At: 2},
		"a + 9223372036854775808":      {Err: api.ErrOverflow, At: 4},
		"a > b":                        {Err: api.ErrSyntax, At: 2},
		"+ " + repeat("k", 33):         {Err: api.ErrSyntax, At: 2},
		repeat("(", 30) + "\n":         {Err: api.ErrSyntax, At: 30},
		"\xff":                         {Err: api.ErrSyntax, At: 0},
		repeat(" ", api.MaxText) + " ": {Err: api.ErrLimit, At: 0},
		"a" + repeat(" ", api.MaxText): {Err: api.ErrLimit, At: 0},
	} {
		wantFault(t, s, fault.Err, fault.At)
	}
	want(t, "a"+repeat(" ", api.MaxText-1), variable("a"))
	want(t, repeat(" ", api.MaxText-1)+"a", variable("a"))
}

func TestNoOperand(t *testing.T) {
	for s, at := range map[string]int{
		"": 0, " ": 1, "     ": 5,
		"a+": 2, "a+ ": 3, "a +  ": 5, "1 * 2 -   ": 10, "a=": 2, "a<b&": 4, "a|": 2,
		"-": 1, "!": 1, "- ": 2, "-!-": 3, "a--": 3, "!!  ": 4,
		"(": 1, "((": 2, "( ": 2, "(a+": 3,
		")": 0, " )": 1, "()": 1, "( )": 2, "(a+)": 3, "-)": 1, "!)": 1, "a+)": 2, "a=)": 2,
		"+a": 0, "*a": 0, "/1": 0, "=1": 0, "<1": 0, "&a": 0, "|a": 0,
		"a++b": 2, "a+*b": 2, "a*/b": 2, "a-=b": 2, "a<=b": 2, "a=<b": 2, "a&&b": 2, "a||b": 2, "a|&b": 2,
		"(+a)": 1, "-*a": 1, "!=a": 1, "a!=b": 1,
	} {
		wantFault(t, s, api.ErrSyntax, at)
	}
}

func TestBehindAnOperand(t *testing.T) {
	for s, at := range map[string]int{
		"a b": 2, "a 1": 2, "1 a": 2, "1 2": 2, "yes no": 4, "a yes": 2,
		"a(b)": 1, "a (": 2, "1(": 1, "(a)(b)": 3, "(a)b": 3, "(a)1": 3,
		"a!": 1, "a!b": 1, "1 !": 2, "(a)!": 3, "a+b!": 3, "-a!": 2,
		"a)": 1, "(a))": 3, "a+b)": 3, "((a)))": 5, "a)+b": 1, "-a)": 2, "(a)) b": 3,
		"(a": 2, "(a ": 3, "((a)": 4, "(a+(b)": 6, "-(a": 3, "(a b)": 3, "(a(": 2, "(a!)": 2,
		"a-b c": 4, "a<b c": 4, "a b+": 2, "a b)": 2,
	} {
		wantFault(t, s, api.ErrSyntax, at)
	}
	wantFault(t, "a"+repeat(")", 40), api.ErrSyntax, 1)
	wantFault(t, repeat("(", 15)+"a"+repeat(")", 14), api.ErrSyntax, 30)
	wantFault(t, repeat("(", 15)+"a"+repeat(")", 16), api.ErrSyntax, 31)
}

// The first fault from the left is told, and those of the words ahead of all.
func TestFirstFault(t *testing.T) {
	wantFault(t, "a b < c < d", api.ErrSyntax, 2)
	wantFault(t, "a < b < c d", api.ErrSyntax, 6)
	wantFault(t, "(a < b < c", api.ErrSyntax, 7)
	wantFault(t, "a b "+repeat("(", 20)+"c", api.ErrSyntax, 2)
	wantFault(t, repeat("(", 20)+"a b", api.ErrLimit, 16)
	wantFault(t, "a+"+repeat("a+", 30)+"b c", api.ErrSyntax, 64) // the tree is too deep, too, but that is told at last
	wantFault(t, "a+"+repeat("a+", 30), api.ErrSyntax, 62)
}

func TestDeepBrackets(t *testing.T) {
	for n := 0; n <= 15; n++ {
		want(t, repeat("(", n)+"a"+repeat(")", n), variable("a"))
		want(t, repeat("( ", n)+"yes"+repeat(" )", n), truth(true))
		wantFault(t, repeat("(", n), api.ErrSyntax, n)
		wantFault(t, repeat("(", n)+")", api.ErrSyntax, n)
		wantFault(t, repeat("(", n)+"*", api.ErrSyntax, n)
	}
	for _, n := range []int{16, 17, 40, 1000, api.MaxText - 1} {
		wantFault(t, repeat("(", n)+"a", api.ErrLimit, 16)
		wantFault(t, repeat("(", n), api.ErrLimit, 16)
		wantFault(t, repeat("(", n)+")", api.ErrLimit, 16)
	}
	wantFault(t, repeat("(", 16), api.ErrLimit, 16)
	wantFault(t, repeat("(", 16)+"  ", api.ErrLimit, 18) // where the text ends
	wantFault(t, repeat("(", 16)+"  *", api.ErrLimit, 18)
	wantFault(t, repeat("(", 16)+"1"+repeat(")", 16), api.ErrLimit, 16)
	want(t, repeat("(", 15)+"a"+repeat(")", 15)+"+"+repeat("(", 14)+"b"+repeat(")", 14), of(7, variable("a"), variable("b")))
	wantFault(t, repeat("(", 15)+"a"+repeat(")", 15)+"+"+repeat("(", 15)+"b"+repeat(")", 15), api.ErrLimit, 47)
}

func TestDeepAheadOfOne(t *testing.T) {
	for kind, one := range map[int]string{neg: "-", not: "!"} {
		for n := 0; n <= 15; n++ {
			want(t, repeat(one, n)+"a", under(kind, n, variable("a")))
			wantFault(t, repeat(one, n), api.ErrSyntax, n)
			wantFault(t, repeat(one, n)+")", api.ErrSyntax, n)
		}
		for _, n := range []int{16, 17, 100, api.MaxText} {
			wantFault(t, (repeat(one, n) + "a")[:min(n+1, api.MaxText)], api.ErrLimit, 16)
			wantFault(t, repeat(one, n), api.ErrLimit, 16)
		}
		want(t, repeat(one, 14)+"(a)", under(kind, 14, variable("a")))
		want(t, repeat(one, 7)+"("+repeat(one, 7)+"a)", under(kind, 14, variable("a")))
		wantFault(t, repeat(one, 15)+"(a)", api.ErrLimit, 16)
		wantFault(t, "("+repeat(one, 15)+"a)", api.ErrLimit, 16)
		want(t, "a*"+repeat(one, 14)+"b", of(9, variable("a"), under(kind, 14, variable("b"))))
		wantFault(t, "a*"+repeat(one, 15)+"b", api.ErrLimit, 17)
		want(t, repeat(one, 14)+"a*b", of(9, under(kind, 14, variable("a")), variable("b")))
		wantFault(t, repeat(one, 15)+"a*b", api.ErrLimit, 0) // each operand lies at 16 at the most, but the tree is deeper
	}
}

// under is a tree with n nodes of a kind above it.
func under(kind, n int, x api.Expr) api.Expr {
	for range n {
		x = of(kind, x)
	}
	return x
}

func TestDeepOnTheRight(t *testing.T) {
	s := "a|b&c=d+e*f" // f stands in the right sides of five signs
	tree, _ := Parse(s)
	for n := 0; n <= 10; n++ {
		want(t, repeat("(", n)+s+repeat(")", n), tree)
	}
	wantFault(t, repeat("(", 11)+s+repeat(")", 11), api.ErrLimit, 21)
	wantFault(t, repeat("(", 12)+s+repeat(")", 12), api.ErrLimit, 20)
	wantFault(t, repeat("(", 15)+s+repeat(")", 15), api.ErrLimit, 17)
	wantFault(t, repeat("(", 11)+"a|b&c=d+e*)", api.ErrLimit, 21)
	wantFault(t, repeat("(", 11)+"a|b&c=d+e*", api.ErrLimit, 21)
	wantFault(t, repeat("(", 10)+"a|b&c=d+e*", api.ErrSyntax, 20)

	want(t, repeat("(", 14)+"a-b-c"+repeat(")", 14), of(8, of(8, variable("a"), variable("b")), variable("c"))) // b and c lie at 16 both
	want(t, repeat("(", 14)+"a*b+c"+repeat(")", 14), of(7, of(9, variable("a"), variable("b")), variable("c")))
	wantFault(t, repeat("(", 14)+"a+b*c"+repeat(")", 14), api.ErrLimit, 18)
	wantFault(t, repeat("(", 15)+"a+b"+repeat(")", 15), api.ErrLimit, 17)
	wantFault(t, repeat("(", 14)+"a+-b"+repeat(")", 14), api.ErrLimit, 17)
	wantFault(t, repeat("(", 14)+"a+(b)"+repeat(")", 14), api.ErrLimit, 17)
	want(t, repeat("(", 14)+"-b+c"+repeat(")", 14), of(7, of(5, variable("b")), variable("c")))

	right := repeat("a-(", 7) + "a-b" + repeat(")", 7) // each bracket lies two deeper than the one around it
	if _, fault := Parse(right); fault != (api.Fault{}) {
		t.Errorf("Parse(%q): %v", right, fault)
	}
	wantFault(t, repeat("a-(", 8)+"a-b"+repeat(")", 8), api.ErrLimit, 24)
	wantFault(t, "-("+right+")", api.ErrLimit, 23)
}

// The left side of signs between two is deep in the tree alone: that is told at last, at 0.
func TestDeepOnTheLeft(t *testing.T) {
	for _, p := range pairSigns {
		if p.row == equalRow {
			continue
		}
		tree := variable("a")
		for range 15 {
			tree = of(p.kind, tree, variable("b"))
		}
		want(t, "a"+repeat(p.text+"b", 15), tree)
		wantFault(t, "a"+repeat(p.text+"b", 16), api.ErrLimit, 0)
		wantFault(t, "  a"+repeat(p.text+"b", 2000), api.ErrLimit, 0)
		wantFault(t, "-a"+repeat(p.text+"b", 15), api.ErrLimit, 0)
	}
}

// 7.4

func TestCheckTrees(t *testing.T) {
	for _, x := range []api.Expr{
		num(0), num(1), num(math.MaxInt64), variable("a"), variable("z0"), variable(repeat("q", 32)), variable("yesno"), truth(true), truth(false),
		{Kind: 3, Kids: []api.Expr{}}, {Kind: 1, Kids: make([]api.Expr, 0, 4)},
		of(5, num(1)), of(6, num(1)), of(6, of(5, variable("a"))), // whether it comes to something is asked elsewhere
	} {
		wantCheck(t, x, api.OK)
	}
	for kind := 7; kind <= 14; kind++ {
		wantCheck(t, of(kind, num(1), truth(true)), api.OK)
		wantCheck(t, of(kind, of(kind, num(1), variable("a")), of(kind, num(0), num(2))), api.OK)
	}
}

func wantCheck(t *testing.T, x api.Expr, err api.Errno) {
	t.Helper()
	if got := Check(x); got != err {
		t.Errorf("Check(%v) = %d, want %d", x, got, err)
	}
	if err != api.OK {
		wantNoText(t, x, err)
	}
}

func TestCheckKinds(t *testing.T) {
	for _, kind := range []int{0, -1, 15, 16, 255, 256, 257, 1 << 32, 1<<32 + 1, math.MaxInt, math.MinInt} {
		wantCheck(t, of(kind), api.ErrArg)
		wantCheck(t, of(kind, num(1)), api.ErrArg)
		wantCheck(t, of(kind, num(1), num(2)), api.ErrArg)
		wantCheck(t, of(5, of(kind)), api.ErrArg)
		wantCheck(t, of(7, num(1), of(kind, num(1), num(2))), api.ErrArg)
	}
}

func TestCheckKids(t *testing.T) {
	kids := []api.Expr{num(1), num(2), num(3), num(4)}
	for kind := 1; kind <= 14; kind++ {
		right := 2
		if kind <= 4 {
			right = 0
		} else if kind <= 6 {
			right = 1
		}
		for n := 0; n <= 4; n++ {
			x := api.Expr{Kind: kind, Kids: kids[:n:n]}
			if kind == 2 {
				x.Name = "a"
			}
			err := api.ErrArg
			if n == right {
				err = api.OK
			}
			wantCheck(t, x, err)
			wantCheck(t, of(6, x), err)
			wantCheck(t, of(8, x, num(0)), err)
			wantCheck(t, of(8, num(0), x), err)
		}
	}
}

// one is a node of each kind that may be.
func one(kind int) api.Expr {
	switch {
	case kind == 2:
		return variable("a")
	case kind <= 4:
		return of(kind)
	case kind <= 6:
		return of(kind, num(1))
	}
	return of(kind, num(1), num(2))
}

func TestCheckNumbersAndNames(t *testing.T) {
	for kind := 1; kind <= 14; kind++ {
		x := one(kind)
		wantCheck(t, x, api.OK)
		for _, n := range []int64{1, 7, 1 << 32, math.MaxInt64} {
			x.N = n
			if kind == 1 {
				wantCheck(t, x, api.OK)
			} else {
				wantCheck(t, x, api.ErrArg)
			}
		}
		for _, n := range []int64{-1, -7, math.MinInt64} {
			x.N = n
			wantCheck(t, x, api.ErrArg)
			wantCheck(t, of(5, x), api.ErrArg)
		}
		x = one(kind)
		for _, name := range []string{"b", "yes", "no", "1", " "} {
			x.Name = name
			if kind == 2 && name == "b" {
				wantCheck(t, x, api.OK)
			} else {
				wantCheck(t, x, api.ErrArg)
			}
		}
	}
	for _, name := range []string{"", "1a", "A", "aB", "a b", " a", "a ", "a_", "(a)", "a+b", "-a", "é", "a\x00", "\xff", repeat("q", 33), repeat("q", 5000), "yes", "no"} {
		wantCheck(t, variable(name), api.ErrArg)
		wantCheck(t, of(5, variable(name)), api.ErrArg)
		wantCheck(t, of(11, variable("a"), variable(name)), api.ErrArg)
	}
}

func TestCheckDeep(t *testing.T) {
	for kind := 5; kind <= 14; kind++ {
		for n := 1; n <= 20; n++ {
			err := api.OK
			if n > 16 {
				err = api.ErrLimit
			}
			for _, where := range []int{0, 1} {
				if got := Check(deep(kind, n, where, num(3))); got != err {
					t.Errorf("Check of kind %d, %d deep, at side %d: %d, want %d", kind, n, where, got, err)
				}
			}
		}
	}
	wantCheck(t, under(neg, 1<<15, num(1)), api.ErrLimit)
}

// deep is a tree of nodes of a kind, the last of them x, so many deep, on the left or on the right.
func deep(kind, n, side int, x api.Expr) api.Expr {
	for range n - 1 {
		switch {
		case kind <= 6:
			x = of(kind, x)
		case side == 0:
			x = of(kind, x, num(9))
		default:
			x = of(kind, num(9), x)
		}
	}
	return x
}

func TestCheckFirstError(t *testing.T) {
	wrong, low := of(99), deep(neg, 16, 0, num(1))
	wantCheck(t, of(add, low, wrong), api.ErrLimit)
	wantCheck(t, of(add, wrong, low), api.ErrArg)
	wantCheck(t, of(add, of(neg, wrong), low), api.ErrArg)
	wantCheck(t, of(add, low, of(neg, wrong)), api.ErrLimit)
	wantCheck(t, of(add, low, wrong, num(1)), api.ErrArg) // a node ahead of what is below it
	wantCheck(t, of(99, low, low), api.ErrArg)
	wantCheck(t, api.Expr{Kind: add, N: 1, Kids: []api.Expr{low, low}}, api.ErrArg)
	wantCheck(t, api.Expr{Kind: neg, Name: "a", Kids: []api.Expr{low}}, api.ErrArg)
	wantCheck(t, deep(neg, 16, 0, wrong), api.ErrArg)
	wantCheck(t, deep(neg, 17, 0, wrong), api.ErrLimit) // of one node the limit is named first
	wantCheck(t, deep(neg, 16, 0, of(neg, num(1))), api.ErrLimit)
	wantCheck(t, deep(neg, 16, 0, of(neg, num(1), num(2))), api.ErrArg)
	wantCheck(t, deep(add, 16, 1, of(add, wrong, num(1))), api.ErrLimit)
	wantCheck(t, deep(add, 17, 0, of(add, num(-1))), api.ErrLimit)
}

// 7.5

func TestPrintNodes(t *testing.T) {
	wantText(t, num(0), "0")
	wantText(t, num(7), "7")
	wantText(t, num(1200), "1200")
	wantText(t, num(math.MaxInt64), "9223372036854775807")
	wantText(t, variable("a"), "a")
	wantText(t, variable(repeat("q9", 16)), repeat("q9", 16))
	wantText(t, truth(true), "yes")
	wantText(t, truth(false), "no")
	wantText(t, of(5, num(4)), "-4")
	wantText(t, of(6, truth(false)), "!no")
	wantText(t, of(5, of(5, variable("a"))), "--a")
	wantText(t, of(6, of(5, of(6, variable("a")))), "!-!a")
	wantText(t, of(14, num(1), truth(true)), "1 | yes")
}

func TestPrintEachSignInEachOther(t *testing.T) {
	a, b, c := variable("a"), variable("b"), variable("c")
	for _, p := range pairSigns {
		wantText(t, of(p.kind, a, b), "a "+p.text+" b")
		wantText(t, of(p.kind, of(5, a), of(6, b)), "-a "+p.text+" !b")
		wantText(t, of(5, of(p.kind, a, b)), "-(a "+p.text+" b)")
		wantText(t, of(6, of(p.kind, a, b)), "!(a "+p.text+" b)")
		wantText(t, of(5, of(6, of(p.kind, a, b))), "-!(a "+p.text+" b)")
		for _, q := range pairSigns {
			inner, left, right := "a "+p.text+" b", "", ""
			if p.row > q.row || p.row == q.row && p.row != equalRow {
				left = inner + " " + q.text + " c"
			} else {
				left = "(" + inner + ") " + q.text + " c"
			}
			if p.row > q.row {
				right = "c " + q.text + " " + inner
			} else {
				right = "c " + q.text + " (" + inner + ")"
			}
			wantText(t, of(q.kind, of(p.kind, a, b), c), left)
			wantText(t, of(q.kind, c, of(p.kind, a, b)), right)
			wantText(t, of(q.kind, of(5, of(p.kind, a, b)), c), "-("+inner+") "+q.text+" c")
			wantText(t, of(q.kind, c, of(6, of(p.kind, a, b))), "c "+q.text+" !("+inner+")")
		}
	}
}

func TestPrintTexts(t *testing.T) {
	for from, to := range map[string]string{
		"0-(1-2)":                   "0 - (1 - 2)",
		"((0-1)-2)":                 "0 - 1 - 2",
		"a+(b*c)":                   "a + b * c",
		"(a+b)*c":                   "(a + b) * c",
		"a/(b*c)":                   "a / (b * c)",
		"(a=b)=c":                   "(a = b) = c",
		"(a<b)=(b<c)":               "(a < b) = (b < c)",
		"(a<b)&(b<c)":               "a < b & b < c",
		"a&(b&c)":                   "a & (b & c)",
		"(a|b)&(c|d)":               "(a | b) & (c | d)",
		"(a&b)|(c&d)":               "a & b | c & d",
		"!(a)&-(-(b+1))<2":          "!a & --(b + 1) < 2",
		"!(yes|no)":                 "!(yes | no)",
		"00012 + 000":               "12 + 0",
		"a-(b+(c-(d+(e))))":         "a - (b + (c - (d + e)))",
		"a*(-b)":                    "a * -b",
		"(a+b)=(c-d)|((e))*(f)<!no": "a + b = c - d | e * f < !no",
	} {
		x, fault := Parse(from)
		if fault != (api.Fault{}) {
			t.Errorf("Parse(%q): %v", from, fault)
		}
		wantText(t, x, to)
	}
}

// A tree may be, and its brackets lie too deep, or its text has too many bytes.
func TestPrintLimit(t *testing.T) {
	for kind := 7; kind <= 14; kind++ {
		for n := 1; n <= 9; n++ {
			if s, err := Print(deep(kind, n, 1, num(3))); s == "" || err != api.OK {
				t.Errorf("Print of kind %d, %d deep: %q, %d", kind, n, s, err)
			}
		}
		for n := 10; n <= 16; n++ {
			wantNoText(t, deep(kind, n, 1, num(3)), api.ErrLimit)
		}
	}
	for n := 1; n <= 16; n++ {
		for _, kind := range []int{5, 6, 7, 8, 9, 10, 13, 14} {
			if s, err := Print(deep(kind, n, 0, num(3))); s == "" || err != api.OK {
				t.Errorf("Print of kind %d, %d deep on the left: %q, %d", kind, n, s, err)
			}
		}
	}
	for n := 1; n <= 16; n++ { // on the left of = and < each bracket is one deeper than the one around it
		if s, err := Print(deep(11, n, 0, num(3))); s == "" || err != api.OK {
			t.Errorf("Print of =, %d deep on the left: %q, %d", n, s, err)
		}
	}
	wantNoText(t, of(neg, of(neg, deep(sub, 9, 1, num(1)))), api.ErrLimit)
	if s, err := Print(deep(neg, 14, 0, of(add, num(1), num(2)))); s != repeat("-", 13)+"(1 + 2)" || err != api.OK {
		t.Errorf("%q, %d", s, err)
	}
	wantNoText(t, deep(neg, 15, 0, of(add, num(1), num(2))), api.ErrLimit)
	wantCheck(t, deep(neg, 15, 0, of(add, num(1), num(2))), api.OK)
}

func TestPrintLongest(t *testing.T) {
	for _, extra := range []int{-40, -1, 0, 1, 2, 40} {
		x, s := long(api.MaxText + extra)
		if err := Check(x); err != api.OK || len(s) != api.MaxText+extra {
			t.Fatalf("%d bytes, Check: %d", len(s), err)
		}
		if extra <= 0 {
			wantText(t, x, s)
			want(t, s, x)
		} else {
			wantNoText(t, x, api.ErrLimit)
			wantFault(t, s, api.ErrLimit, 0)
		}
	}
	full := num(math.MaxInt64)
	for range 15 { // as many nodes as may be
		full = of(mul, full, full)
	}
	wantCheck(t, full, api.OK)
	wantNoText(t, full, api.ErrLimit)
}

// long is four sums, | between them, each of five products of six names, and its text, which has so many bytes.
func long(size int) (api.Expr, string) {
	short := 4*5*6*32 + (4*5*6-1)*3 - size // bytes by which the first names are shorter
	name := func() (api.Expr, string) {
		cut := min(short, 31)
		short -= cut
		return variable(repeat("q", 32-cut)), repeat("q", 32-cut)
	}
	product := func() (api.Expr, string) { return chain(mul, " * ", 6, name) }
	sum := func() (api.Expr, string) { return chain(add, " + ", 5, product) }
	return chain(or, " | ", 4, sum)
}

// chain is n trees with a sign between each two, to the left, and the text.
func chain(kind int, sign string, n int, make func() (api.Expr, string)) (api.Expr, string) {
	x, s := make()
	for range n - 1 {
		y, more := make()
		x, s = of(kind, x, y), s+sign+more
	}
	return x, s
}

// 7.6

func TestSame(t *testing.T) {
	wantSame(t, api.Expr{}, api.Expr{}, true)
	wantSame(t, api.Expr{Kids: []api.Expr{}}, api.Expr{}, true)
	wantSame(t, num(1), num(1), true)
	wantSame(t, num(1), num(2), false)
	wantSame(t, num(0), truth(true), false)
	wantSame(t, variable("a"), variable("a"), true)
	wantSame(t, variable("a"), variable("b"), false)
	wantSame(t, variable("a"), variable("ab"), false)
	wantSame(t, variable("yes"), truth(true), false)
	wantSame(t, num(1), num(1<<32+1), false)
	wantSame(t, of(3), of(1<<32+3), false)
	wantSame(t, of(7, num(1), num(2)), of(7, num(2), num(1)), false)
	wantSame(t, of(7, num(1), num(2)), of(7, num(1), num(2), num(3)), false)
	wantSame(t, of(7, num(1)), of(7), false)
	wantSame(t, of(8, of(8, num(1), num(2)), num(3)), of(8, num(1), of(8, num(2), num(3))), false)
	wantSame(t, of(5, num(1)), of(6, num(1)), false)
	wantSame(t, of(5, num(1)), num(1), false)
	wantSame(t, api.Expr{Kind: -4, N: -1, Name: "\xff"}, api.Expr{Kind: -4, N: -1, Name: "\xff"}, true) // trees that may not be, too
	wantSame(t, under(neg, 1<<15, num(1)), under(neg, 1<<15, num(1)), true)
	wantSame(t, under(neg, 1<<15, num(1)), under(neg, 1<<15, num(2)), false)
	wantSame(t, under(neg, 1<<15, num(1)), under(neg, 1<<15+1, num(1)), false)
}

func wantSame(t *testing.T, a, b api.Expr, same bool) {
	t.Helper()
	if Same(a, b) != same || Same(b, a) != same {
		t.Errorf("Same says %v and %v, want %v", Same(a, b), Same(b, a), same)
	}
}

// Two trees that differ in one node alone, whichever it is.
func TestSameButForOneNode(t *testing.T) {
	for seed := range uint64(60) {
		x := dice(seed).tree(5)
		wantSame(t, x, plain(x), true)
		for at := range count(x) {
			for way := range 6 {
				wantSame(t, x, changed(x, at, way), false)
			}
		}
	}
}

func count(x api.Expr) int {
	n := 1
	for _, kid := range x.Kids {
		n += count(kid)
	}
	return n
}

// changed is a new tree that differs in the node at a place, ahead of what is below it.
func changed(x api.Expr, at, way int) api.Expr {
	y := plain(x)
	node := &y
	for at > 0 {
		at--
		for i := range node.Kids {
			if n := count(node.Kids[i]); at >= n {
				at -= n
				continue
			}
			node = &node.Kids[i]
			break
		}
	}
	switch way {
	case 0:
		node.Kind++
	case 1:
		node.Kind -= 256
	case 2:
		node.N ^= math.MinInt64
	case 3:
		node.N++
	case 4:
		node.Name += "0"
	default:
		node.Kids = append(node.Kids, num(0))
	}
	return y
}

// Trees, texts and words by chance, each the same in each run.
type chance struct{ at uint64 }

func dice(seed uint64) *chance { return &chance{at: seed*6364136223846793005 + 1442695040888963407} }

func (c *chance) next(n int) int {
	c.at = c.at*6364136223846793005 + 1442695040888963407
	return int(c.at>>33) % n
}

// tree is one that may be, with at most so many nodes behind one another.
func (c *chance) tree(most int) api.Expr {
	kind := 1 + c.next(14)
	if most == 1 {
		kind = 1 + c.next(4)
	}
	switch {
	case kind == 1:
		return num([]int64{0, 1, 9, 10, 1 << 40, math.MaxInt64}[c.next(6)])
	case kind == 2:
		return variable([]string{"a", "b", "yes1", "n0", repeat("w", 32)}[c.next(5)])
	case kind <= 4:
		return of(kind)
	case kind <= 6:
		return of(kind, c.tree(most-1))
	}
	return of(kind, c.tree(most-1), c.tree(most-1))
}

// words is a text that is likely to be a condition for a while.
func (c *chance) words(n int) string {
	var b strings.Builder
	operand := true
	for range n {
		if c.next(24) == 0 {
			operand = !operand
		}
		var list []string
		if operand {
			list = []string{"a", "b2", "yes", "no", "0", "31", "(", "(", "-", "!", "( "}
		} else {
			list = []string{"+", "-", "*", "/", "=", "<", "&", "|", ")", ")", " + ", " )"}
		}
		word := list[c.next(len(list))]
		b.WriteString(word)
		if c.next(3) == 0 || strings.IndexByte("(-!( )", word[0]) < 0 && operand && c.next(9) == 0 {
			b.WriteString(" ")
		}
		switch strings.TrimSpace(word) {
		case "(", "!", ")":
		case "-":
			operand = true
		default:
			operand = !operand
		}
	}
	return b.String()
}

// worded is Parse, as another code says it: by a stack of what stands open around an operand.
// An operand lies at one more than there is open around it.
func worded(s string) (api.Expr, api.Fault) {
	words, fault := lex.Split(s)
	if fault.Err != api.OK {
		return api.Expr{}, fault
	}
	type open struct {
		row, kind int // row 0: a bracket; 9: - or !
		left      api.Expr
	}
	var stack []open
	var x api.Expr
	// fold takes off the stack what is ended by a sign of a row, and tells whether one of the row of = and < was.
	fold := func(row int) (equals bool) {
		for len(stack) > 0 && stack[len(stack)-1].row >= max(row, 1) {
			top := stack[len(stack)-1]
			stack = stack[:len(stack)-1]
			if top.row == 9 {
				x = of(top.kind, x)
			} else {
				x = of(top.kind, top.left, x)
			}
			equals = equals || top.row == equalRow
		}
		return equals
	}
	operand := true
	for i := 0; i <= len(words); i++ {
		word := api.Word{At: len(s)}
		if i < len(words) {
			word = words[i]
		}
		wrong := api.Fault{Err: api.ErrSyntax, At: word.At}
		if operand {
			if len(stack)+1 > 16 {
				return api.Expr{}, api.Fault{Err: api.ErrLimit, At: word.At}
			}
			operand = false
			switch {
			case word.Kind == 1:
				x = num(word.N)
			case word.Kind == 2 && (word.Text == "yes" || word.Text == "no"):
				x = truth(word.Text == "yes")
			case word.Kind == 2:
				x = variable(word.Text)
			case word.Text == "-":
				stack, operand = append(stack, open{row: 9, kind: neg}), true
			case word.Text == "!":
				stack, operand = append(stack, open{row: 9, kind: not}), true
			case word.Text == "(":
				stack, operand = append(stack, open{}), true
			default:
				return api.Expr{}, wrong
			}
			continue
		}
		at := slices.IndexFunc(pairSigns, func(p pairSign) bool { return p.text == word.Text })
		switch {
		case at >= 0:
			row := pairSigns[at].row
			if fold(row) && row == equalRow {
				return api.Expr{}, wrong
			}
			stack, operand = append(stack, open{row: row, kind: pairSigns[at].kind, left: x}), true
		case word.Text == ")":
			fold(0)
			if len(stack) == 0 {
				return api.Expr{}, wrong
			}
			stack = stack[:len(stack)-1]
		case word.Kind == 0:
			fold(0)
			if len(stack) > 0 {
				return api.Expr{}, wrong
			}
		default:
			return api.Expr{}, wrong
		}
	}
	if height(x) > 16 {
		return api.Expr{}, api.Fault{Err: api.ErrLimit}
	}
	return x, api.Fault{}
}

func height(x api.Expr) int {
	n := 0
	for _, kid := range x.Kids {
		n = max(n, height(kid))
	}
	return n + 1
}

func TestParseAgainstWorded(t *testing.T) {
	trees, faults := 0, [2]int{}
	for seed := range uint64(60000) {
		c := dice(seed)
		s := c.words(1 + c.next(60))
		x, fault := worded(s)
		switch {
		case fault.Err == api.OK:
			trees++
			want(t, s, x)
		default:
			faults[min(int(fault.Err)/6, 1)]++
			wantFault(t, s, fault.Err, fault.At)
		}
		if t.Failed() {
			return
		}
	}
	if trees < 1000 || faults[0] < 1000 || faults[1] < 20 {
		t.Errorf("too few of a kind: %d trees, %d faults", trees, faults)
	}
}

// All texts of few words.
func TestShortTextsAgainstWorded(t *testing.T) {
	list := []string{"a", "1", "no", "+", "-", "*", "=", "<", "&", "|", "!", "(", ")"}
	var all func(s string, n int)
	all = func(s string, n int) {
		x, fault := worded(s)
		if fault.Err == api.OK {
			want(t, s, x)
		} else {
			wantFault(t, s, fault.Err, fault.At)
		}
		if n == 0 {
			return
		}
		for _, word := range list {
			all(s+" "+word, n-1)
		}
	}
	all("", 4)
}

// 7.7

func TestPrintedIsParsedAsItWas(t *testing.T) {
	texts, none := 0, 0
	for seed := range uint64(20000) {
		c := dice(seed)
		x := c.tree(1 + c.next(12))
		before := plain(x)
		s, err := Print(x)
		if !equal(x, before) {
			t.Fatal("the tree was changed")
		}
		if err == api.ErrLimit {
			if back, fault := worded(bracketed(x)); fault.Err == api.OK && equal(back, x) {
				t.Errorf("Print(%v): ErrLimit", x)
			}
			none++
			continue
		}
		texts++
		if err != api.OK || s != bracketed(x) {
			t.Fatalf("Print(%v) = %q, %d, want %q", x, s, err, bracketed(x))
		}
		want(t, s, x)
		if again, err := Print(x); again != s || err != api.OK {
			t.Errorf("Print twice: %q, %q", s, again)
		}
		if seed < 2000 {
			wantNoBracketTooMany(t, s, x)
		}
	}
	if texts < 1000 || none < 50 {
		t.Errorf("too few of a kind: %d texts, %d without one", texts, none)
	}
}

// bracketed is a tree's text, as another code says it: a side stands bare, if its words and those of the sign
// are parsed as the tree with that side, the side's own sides being names.
func bracketed(x api.Expr) string {
	switch {
	case x.Kind == 1:
		return digits(x.N)
	case x.Kind == 2:
		return x.Name
	case x.Kind == 3:
		return "yes"
	case x.Kind == 4:
		return "no"
	case x.Kind <= 6:
		one := string("-!"[x.Kind-5])
		if x.Kids[0].Kind <= 6 {
			return one + bracketed(x.Kids[0])
		}
		return one + "(" + bracketed(x.Kids[0]) + ")"
	}
	p := pairSigns[slices.IndexFunc(pairSigns, func(p pairSign) bool { return p.kind == x.Kind })]
	l, r := small(x.Kids[0]), small(x.Kids[1])
	left, right := bracketed(x.Kids[0]), bracketed(x.Kids[1])
	if y, fault := worded(l + p.text + "z"); fault.Err != api.OK || y.Kind != x.Kind || y.Kids[0].Kind != x.Kids[0].Kind {
		left = "(" + left + ")"
	}
	if y, fault := worded("z" + p.text + r); fault.Err != api.OK || y.Kind != x.Kind || y.Kids[1].Kind != x.Kids[1].Kind {
		right = "(" + right + ")"
	}
	return left + " " + p.text + " " + right
}

// small is the text of a tree of the same kind, with names on its sides.
func small(x api.Expr) string {
	switch {
	case x.Kind == 1:
		return "1"
	case x.Kind == 2:
		return "v"
	case x.Kind <= 4:
		return []string{"yes", "no"}[x.Kind-3]
	case x.Kind <= 6:
		return string("-!"[x.Kind-5]) + "v"
	}
	return "v" + string("+-*/=<&|"[x.Kind-7]) + "w"
}

func digits(n int64) string {
	if n < 10 {
		return string("0123456789"[n])
	}
	return digits(n/10) + digits(n%10)
}

// wantNoBracketTooMany fails the test, if a text without one of its pairs of brackets is the same tree.
func wantNoBracketTooMany(t *testing.T, s string, x api.Expr) {
	t.Helper()
	var open []int
	for i := range len(s) {
		switch s[i] {
		case '(':
			open = append(open, i)
		case ')':
			at := open[len(open)-1]
			open = open[:len(open)-1]
			bare := s[:at] + s[at+1:i] + s[i+1:]
			if y, fault := Parse(bare); fault.Err == api.OK && equal(x, y) {
				t.Errorf("%q is the same without brackets: %q", s, bare)
			}
		}
	}
}

// R3

// What is answered is new memory: its lists have no room, no two of them share any, and the text's own is not kept.
func TestNewMemory(t *testing.T) {
	s := strings.Clone("abc + abc * (abc - -abc) | !yes")
	lists := map[*api.Expr]int{}
	var walk func(x api.Expr)
	walk = func(x api.Expr) {
		if cap(x.Kids) > len(x.Kids) {
			t.Errorf("%v has room behind it", x.Kids)
		}
		if len(x.Kids) > 0 {
			lists[unsafe.SliceData(x.Kids)]++
		}
		if within(x.Name, s) {
			t.Error("a name lies in the text's memory")
		}
		for _, kid := range x.Kids {
			walk(kid)
		}
	}
	for range 2 {
		x, _ := Parse(s)
		walk(x)
	}
	if len(lists) != 12 {
		t.Errorf("%d lists, want 12 that share nothing", len(lists))
	}
	for _, x := range []api.Expr{variable(s[:3]), of(5, variable(s[:3])), of(7, variable(s[:3]), num(1))} {
		if text, _ := Print(x); within(text, s) {
			t.Errorf("%q lies in the tree's memory", text)
		}
	}
}

// within: does a text lie in another one's memory?
func within(s, all string) bool {
	at, from := uintptr(unsafe.Pointer(unsafe.StringData(s))), uintptr(unsafe.Pointer(unsafe.StringData(all)))
	return s != "" && from <= at && at < from+uintptr(len(all))
}

// What lies behind a list's length is no part of a tree.
func TestBehindTheLength(t *testing.T) {
	kids := []api.Expr{num(1), num(2), of(99), num(-1)}
	before := slices.Clone(kids)
	x := of(7, kids[:2]...)
	x.Kids = kids[:2]
	wantCheck(t, x, api.OK)
	wantText(t, x, "1 + 2")
	wantSame(t, x, of(7, num(1), num(2)), true)
	y := api.Expr{Kind: 1, Kids: kids[:0]}
	wantCheck(t, y, api.OK)
	wantText(t, y, "0")
	wantSame(t, y, num(0), true)
	if !reflect.DeepEqual(kids, before) {
		t.Error("the list was changed")
	}
}

// P0, P6: the same call answers the same, whatever came ahead of it.
func TestCallsDoNotHangOnOthers(t *testing.T) {
	for seed := range uint64(500) {
		c := dice(seed)
		s := c.words(1 + c.next(30))
		x, fault := Parse(s)
		Parse(repeat("(", 40))
		Parse("a b")
		y, again := Parse(s)
		if !equal(x, y) || fault != again {
			t.Errorf("Parse(%q) twice: %v, %v and %v, %v", s, x, fault, y, again)
		}
	}
}

// Bytes of all kinds end in an answer, and never in a panic.
func TestAnyBytes(t *testing.T) {
	for seed := range uint64(20000) {
		c := dice(seed)
		b := make([]byte, c.next(40))
		for i := range b {
			if c.next(30) == 0 {
				b[i] = byte(c.next(256))
			} else {
				b[i] = "ab1+-*/=<&|!() "[c.next(15)]
			}
		}
		x, fault := worded(string(b))
		if fault.Err == api.OK {
			want(t, string(b), x)
		} else {
			wantFault(t, string(b), fault.Err, fault.At)
		}
	}
}
