package eval

import (
	"fmt"
	"math"
	"math/big"
	"reflect"
	"slices"
	"strconv"
	"strings"
	"testing"

	"funicular/api"
	"funicular/expr"
	"funicular/types"
)

// Trees as promise 7.2 says them, and the kinds by their numbers.
func num(n int64) api.Expr { return api.Expr{Kind: 1, N: n} }

func variable(name string) api.Expr { return api.Expr{Kind: 2, Name: name} }

func of(kind int, kids ...api.Expr) api.Expr { return api.Expr{Kind: kind, Kids: kids} }

const (
	yes = 3
	no  = 4
	neg = 5
	not = 6
	add = 7
	sub = 8
	mul = 9
	div = 10
	eq  = 11
	lt  = 12
	and = 13
	or  = 14

	least = math.MinInt64
	most  = math.MaxInt64
)

// given is variables by their names, with blanks between, and their numbers.
func given(names string, vals ...int64) api.Vars {
	return api.Vars{Names: strings.Fields(names), Vals: vals}
}

// tree is a text's tree.
func tree(t *testing.T, s string) api.Expr {
	t.Helper()
	x, fault := expr.Parse(s)
	if fault != (api.Fault{}) {
		t.Fatalf("Parse(%q): %v", s, fault)
	}
	return x
}

// copied is a tree of its own memory.
func copied(x api.Expr) api.Expr {
	x.Name = strings.Clone(x.Name)
	x.Kids = slices.Clone(x.Kids)
	for i := range x.Kids {
		x.Kids[i] = copied(x.Kids[i])
	}
	return x
}

// copiedVars is variables of their own memory.
func copiedVars(v api.Vars) api.Vars {
	return api.Vars{Names: slices.Clone(v.Names), Vals: slices.Clone(v.Vals)}
}

// answers is what the three calls answer of a tree that comes to a value, or to an error.
type answers struct {
	value  api.Value
	err    api.Errno
	number int64
	noNum  api.Errno
	truth  bool
	noBool api.Errno
}

// want fails the test, if one of the three calls answers another thing, or what was handed in was changed.
func want(t *testing.T, x api.Expr, v api.Vars, w answers) {
	t.Helper()
	x0, v0 := copied(x), copiedVars(v)
	var got answers
	got.value, got.err = Of(x, v)
	got.number, got.noNum = Number(x, v)
	got.truth, got.noBool = Truth(x, v)
	if got != w {
		t.Errorf("%s with %v:\n got  %+v\n want %+v", short(x0), v0, got, w)
	}
	if !reflect.DeepEqual(x, x0) || !reflect.DeepEqual(v, v0) {
		t.Fatalf("%s with %v was changed to %s with %v", short(x0), v0, short(x), v)
	}
}

// short is the beginning of a tree's text: the widest trees would fill screens.
func short(x api.Expr) string {
	s := fmt.Sprint(x)
	return s[:min(len(s), 500)]
}

func wantNumber(t *testing.T, x api.Expr, v api.Vars, n int64) {
	t.Helper()
	want(t, x, v, answers{value: api.Value{N: n}, number: n, noBool: 7})
}

func wantTruth(t *testing.T, x api.Expr, v api.Vars, is bool) {
	t.Helper()
	w := answers{value: api.Value{Bool: true}, noNum: 7, truth: is} // a no is a truth, too
	if is {
		w.value.N = 1
	}
	want(t, x, v, w)
}

func wantError(t *testing.T, x api.Expr, v api.Vars, err api.Errno) {
	t.Helper()
	want(t, x, v, answers{err: err, noNum: err, noBool: err})
}

// The same of a text.
func textNumber(t *testing.T, s string, v api.Vars, n int64) {
	t.Helper()
	wantNumber(t, tree(t, s), v, n)
}

func textTruth(t *testing.T, s string, v api.Vars, is bool) {
	t.Helper()
	wantTruth(t, tree(t, s), v, is)
}

func textError(t *testing.T, s string, v api.Vars, err api.Errno) {
	t.Helper()
	wantError(t, tree(t, s), v, err)
}

func TestExample(t *testing.T) {
	v := given("a b", 7, 1)
	textTruth(t, "a / 2 + 1 < 5 & !(b = 0)", v, true)
	textError(t, "a / (b - 1)", v, api.ErrDiv)
}

// 10.1

// A no's value is a truth, whichever kind of tree comes to it, and never the number 0's; a yes's is never the number 1's.
func TestValues(t *testing.T) {
	v := given("a m", 7, 0)
	isYes, isNo := api.Value{Bool: true, N: 1}, api.Value{Bool: true, N: 0}
	for s, w := range map[string]api.Value{
		"no": isNo, "yes": isYes, "!yes": isNo, "!no": isYes, "!!no": isNo, "!(m = 0)": isNo, "!(a < m)": isYes,
		"m = 1": isNo, "m = 0": isYes, "1 = 2": isNo, "yes = no": isNo, "no = yes": isNo, "no = no": isYes, "(m = 1) = no": isYes, "(a < m) = yes": isNo, "!yes = (a < m)": isYes,
		"a < m": isNo, "m < m": isNo, "m < a": isYes, "1 < 0": isNo,
		"no & yes": isNo, "yes & no": isNo, "no & no": isNo, "yes & yes": isYes, "no & 1 / m = 1": isNo, "a < m & x = 1": isNo, "yes & a < m": isNo, "no & no & yes": isNo,
		"no | no": isNo, "no | yes": isYes, "yes | no": isYes, "yes | 1 / m = 1": isYes, "a < m | m = 1": isNo, "no | !yes": isNo, "m = 0 | x = 1": isYes,
		"0": {N: 0}, "1": {N: 1}, "m": {N: 0}, "a": {N: 7}, "-m": {N: 0}, "m + m": {N: 0}, "a - 7": {N: 0}, "a * m": {N: 0}, "m / a": {N: 0}, "a - 6": {N: 1}, "a / 7": {N: 1},
	} {
		if is, err := Of(tree(t, s), v); is != w || err != api.OK {
			t.Errorf("Of(%s) = %+v, %d, want %+v", s, is, err, w)
		}
	}
	for kind, w := range map[int]api.Value{yes: isYes, no: isNo} {
		for _, v := range []api.Vars{{}, v, given("m", 0), given("m", 1)} {
			if is, err := Of(of(kind), v); is != w || err != api.OK {
				t.Errorf("Of(kind %d) with %v = %+v, %d, want %+v", kind, v, is, err, w)
			}
		}
	}
	for _, s := range []string{"x", "x = 1", "!(x = 1)", "1 / m", "1 / m < 0", "yes & x < 0", "no | x < 0", "no & yes | x < 0"} { // with an error there is no value of either type
		if is, err := Of(tree(t, s), v); is != (api.Value{}) || err == api.OK {
			t.Errorf("Of(%s) = %+v, %d", s, is, err)
		}
	}
}

// 10.2's kinds one by one

func TestLeaves(t *testing.T) {
	none := api.Vars{}
	for _, n := range []int64{0, 1, 2, 10, 1 << 31, 1 << 32, 1 << 53, 1<<53 + 1, most - 1, most} {
		wantNumber(t, num(n), none, n)
	}
	wantTruth(t, of(yes), none, true)
	wantTruth(t, of(no), none, false)
	wantTruth(t, of(yes), given("a", 0), true)
	wantTruth(t, of(no), given("a", 1), false)
	wantNumber(t, num(0), given("a", 1), 0)
}

func TestVariables(t *testing.T) {
	v := given("a ab b c10 c9 yes1", 5, -6, 0, least, most, 1)
	for i, name := range v.Names {
		wantNumber(t, variable(name), v, v.Vals[i])
	}
	for _, name := range []string{"aa", "abc", "c", "c1", "c99", "d", "n", "yes11", "z", strings.Repeat("a", 32)} {
		wantError(t, variable(name), v, api.ErrNone)
	}
	for _, name := range []string{"a", "b", "yes1"} {
		wantError(t, variable(name), api.Vars{}, api.ErrNone)
		wantError(t, variable(name), api.Vars{Names: []string{}, Vals: []int64{}}, api.ErrNone)
	}
}

func TestManyVariables(t *testing.T) {
	var v api.Vars
	for i := range 64 {
		v.Names = append(v.Names, "v"+strconv.Itoa(100+i))
		v.Vals = append(v.Vals, int64(i*i-50))
	}
	for i, name := range v.Names {
		wantNumber(t, variable(name), v, v.Vals[i])
		textNumber(t, name+" + 1", v, v.Vals[i]+1)
	}
	long := strings.Repeat("q", 32)
	wantNumber(t, variable(long), given(long, -3), -3)
}

func TestNot(t *testing.T) {
	wantTruth(t, of(not, of(yes)), api.Vars{}, false)
	wantTruth(t, of(not, of(no)), api.Vars{}, true)
	textTruth(t, "!!yes", api.Vars{}, true)
	textTruth(t, "!!!yes", api.Vars{}, false)
	textTruth(t, "!(a < 3)", given("a", 2), false)
	textTruth(t, "!(a < 3)", given("a", 3), true)
	textError(t, "!(a < 3)", given("b", 3), api.ErrNone)
	textError(t, "!(1 / 0 = 0)", api.Vars{}, api.ErrDiv)
}

// edges is numbers at which a sum, a difference, a product or a quotient may go wrong.
func edges() []int64 {
	list := []int64{
		0, 1, -1, 2, -2, 3, -3, 7, -7, 10, -10,
		least, least + 1, least + 2, least + 7, most, most - 1, most - 2, most - 7,
		least / 2, least/2 - 1, least/2 + 1, most / 2, most/2 + 1, most/2 + 2, least / 3, most / 3, least / 7, most / 7,
		1 << 31, -1 << 31, 1<<31 - 1, 1 << 32, -1 << 32, 1<<32 - 1, 1<<32 + 1, 1 << 33, 1 << 61, -1 << 61, 1 << 62, -1 << 62, 1 << 53, 1<<53 + 1,
		3037000499, -3037000499, 3037000500, -3037000500, // the root of 2^63
	}
	slices.Sort(list)
	return slices.Compact(list)
}

// exactly is what a sign makes of two numbers, as 10.2 says it, reckoned without bounds.
func exactly(kind int, a, b int64) (int64, api.Errno) {
	x, y, n := big.NewInt(a), big.NewInt(b), new(big.Int)
	switch kind {
	case add:
		n.Add(x, y)
	case sub:
		n.Sub(x, y)
	case mul:
		n.Mul(x, y)
	case div:
		if b == 0 {
			return 0, api.ErrDiv
		}
		n.Quo(x, y)
	}
	if !n.IsInt64() {
		return 0, api.ErrOverflow
	}
	return n.Int64(), api.OK
}

func TestNumbersAtTheEdges(t *testing.T) {
	count := map[api.Errno]int{}
	for _, a := range edges() {
		for _, b := range edges() {
			v := given("a b", a, b)
			for _, kind := range []int{add, sub, mul, div} {
				x := of(kind, variable("a"), variable("b"))
				n, err := exactly(kind, a, b)
				count[err]++
				if err == api.OK {
					wantNumber(t, x, v, n)
				} else {
					wantError(t, x, v, err)
				}
			}
			wantTruth(t, of(eq, variable("a"), variable("b")), v, a == b)
			wantTruth(t, of(lt, variable("a"), variable("b")), v, a < b)
		}
	}
	if count[api.OK] < 1000 || count[api.ErrOverflow] < 1000 || count[api.ErrDiv] != len(edges()) {
		t.Errorf("%v", count)
	}
}

func TestOpposite(t *testing.T) {
	x := of(neg, variable("a"))
	for _, n := range edges() {
		if n == least {
			wantError(t, x, given("a", n), api.ErrOverflow)
			wantError(t, of(neg, x), given("a", n), api.ErrOverflow)
			continue
		}
		wantNumber(t, x, given("a", n), -n)
		wantNumber(t, of(neg, x), given("a", n), n)
	}
	textNumber(t, "-0", api.Vars{}, 0)
	textNumber(t, "-9223372036854775807", api.Vars{}, least+1)
	textNumber(t, "-9223372036854775807 - 1", api.Vars{}, least)
	textError(t, "-9223372036854775807 - 2", api.Vars{}, api.ErrOverflow)
	textError(t, "-(-9223372036854775807 - 1)", api.Vars{}, api.ErrOverflow)
}

// At the least and the greatest number, and one beyond them.
func TestSums(t *testing.T) {
	v := given("least most", least, most)
	for s, n := range map[string]int64{
		"most + 0": most, "0 + most": most, "most + -1": most - 1, "most - 1 + 1": most, "least + 1": least + 1, "least + 0": least, "least + 1 + -1": least, "most + least": -1, "least + most": -1,
		"most - 0": most, "least - 0": least, "most - most": 0, "least - least": 0, "least + 1 - 1": least, "0 - most": least + 1, "-1 - most": least, "-1 - least": most, "most - 1 - -1": most, "least - -1": least + 1,
	} {
		textNumber(t, s, v, n)
	}
	for _, s := range []string{
		"most + 1", "1 + most", "most + most", "least + -1", "-1 + least", "least + least", "most - 1 + 2",
		"least - 1", "most - -1", "0 - least", "1 - least", "-2 - most", "most - least", "least - most", "least + 1 - 2",
	} {
		textError(t, s, v, api.ErrOverflow)
	}
}

func TestProducts(t *testing.T) {
	v := given("half least most root", -1<<62, least, most, 3037000499)
	for s, n := range map[string]int64{
		"most * 1": most, "1 * most": most, "most * 0": 0, "0 * least": 0, "least * 0": 0, "least * 1": least, "1 * least": least, "most * -1": least + 1, "-1 * most": least + 1,
		"half * 2": least, "2 * half": least, "-half * -2": least, "half * 1": -1 << 62, "root * root": 9223372030926249001, "-root * -root": 9223372030926249001, "root * -root": -9223372030926249001,
		"7 * 1317624576693539401": most, "-7 * 1317624576693539401": least + 1, "4294967296 * -2147483648": least, "-2147483648 * 4294967296": least,
	} {
		textNumber(t, s, v, n)
	}
	for _, s := range []string{
		"least * -1", "-1 * least", "most * 2", "2 * most", "most * -2", "least * 2", "least * least", "most * most", "most * least", "least * most", "half * -2", "-2 * half", "half * 3", "half * 4", "4 * half", "half * half",
		"(root + 1) * (root + 1)", "(root + 1) * -(root + 1)", "4294967296 * 2147483648", "4294967296 * 4294967296", "-4294967296 * 4294967296", "7 * 1317624576693539402", "-7 * 1317624576693539402",
	} {
		textError(t, s, v, api.ErrOverflow)
	}
}

func TestQuotients(t *testing.T) {
	v := given("least most nil", least, most, 0)
	for s, n := range map[string]int64{
		"7 / 2": 3, "-7 / 2": -3, "7 / -2": -3, "-7 / -2": 3, "6 / 3": 2, "-6 / 3": -2, "6 / -3": -2, "-6 / -3": 2, "1 / 2": 0, "-1 / 2": 0, "1 / -2": 0, "-1 / -2": 0, "0 / 5": 0, "0 / -5": 0, "-999 / 1000": 0, "-1999 / 1000": -1,
		"least / 1": least, "least / 2": -1 << 62, "least / -2": 1 << 62, "most / -1": least + 1, "most / 1": most, "(least + 1) / -1": most, "least / least": 1, "least / most": -1, "most / least": 0, "-1 / least": 0, "most / most": 1,
	} {
		textNumber(t, s, v, n)
	}
	for _, s := range []string{"1 / 0", "0 / 0", "-1 / 0", "most / 0", "least / 0", "7 / nil", "nil / nil", "7 / (3 - 3)", "7 / (1 / 2)", "7 / -nil"} {
		textError(t, s, v, api.ErrDiv)
	}
	textError(t, "least / -1", v, api.ErrOverflow)
	textError(t, "least / (nil - 1)", v, api.ErrOverflow)
}

func TestEqual(t *testing.T) {
	v := given("a b c", 5, 5, -5)
	for s, is := range map[string]bool{
		"a = b": true, "a = c": false, "c = a": false, "a = 5": true, "5 = a": true, "a = 6": false, "a = -c": true, "0 = -0": true, "0 = 1": false, "9223372036854775807 = 9223372036854775806": false, "4294967297 = 1": false,
		"yes = yes": true, "no = no": true, "yes = no": false, "no = yes": false,
		"(a = b) = (b = a)": true, "(a < b) = no": true, "(a < b) = (c < a)": false, "(c < a) = yes": true, "!(a = b) = (a < c)": true,
	} {
		textTruth(t, s, v, is)
	}
}

func TestLess(t *testing.T) {
	v := given("least most", least, most)
	for s, is := range map[string]bool{
		"1 < 2": true, "2 < 1": false, "2 < 2": false, "0 < 0": false, "-1 < 0": true, "0 < -1": false, "-2 < -1": true, "-1 < -2": false, "-1 < -1": false, "-1 < 1": true, "1 < -1": false,
		"least < most": true, "most < least": false, "least < least": false, "most < most": false, "least < 0": true, "0 < least": false, "most - 1 < most": true, "least < least + 1": true, "least + 1 < least": false,
	} {
		textTruth(t, s, v, is)
	}
}

// asked is texts that come to yes or no by known truths and by what variables tell.
var asked = []struct {
	s  string
	is bool
}{{"yes", true}, {"a = 1", true}, {"!(a = 0)", true}, {"no", false}, {"a = 0", false}, {"!(a = 1)", false}}

func TestAndOrOfEachPair(t *testing.T) {
	v := given("a", 1)
	for _, l := range asked {
		for _, r := range asked {
			textTruth(t, l.s+" & "+r.s, v, l.is && r.is)
			textTruth(t, l.s+" | "+r.s, v, l.is || r.is)
		}
	}
}

// What the left one says is not asked of the right one; what it leaves open is.
func TestRightOneNotAsked(t *testing.T) {
	v := given("a m", 1, least)
	bad := []struct {
		s   string
		err api.Errno
	}{{"x = 0", api.ErrNone}, {"1 / 0 = 0", api.ErrDiv}, {"-m < 0", api.ErrOverflow}, {"(a = 1 & x < 0)", api.ErrNone}}
	for _, r := range bad {
		for _, l := range asked {
			if l.is {
				textTruth(t, l.s+" | "+r.s, v, true)
				textError(t, l.s+" & "+r.s, v, r.err)
			} else {
				textTruth(t, l.s+" & "+r.s, v, false)
				textError(t, l.s+" | "+r.s, v, r.err)
			}
			textError(t, r.s+" & "+l.s, v, r.err) // the left one is always asked
			textError(t, r.s+" | "+l.s, v, r.err)
		}
		textTruth(t, "no & yes & "+r.s, v, false)
		textTruth(t, "yes | no | "+r.s, v, true)
		textError(t, "no & yes | "+r.s, v, r.err)
		textTruth(t, "!(no & "+r.s+")", v, true)
		textTruth(t, "(yes | "+r.s+") = (no & "+r.s+")", v, false)
	}
}

// Other signs ask both sides, though one would tell.
func TestBothAsked(t *testing.T) {
	v := given("a", 1)
	textError(t, "0 * x", v, api.ErrNone)
	textError(t, "x * 0", v, api.ErrNone)
	textError(t, "0 / x", v, api.ErrNone)
	textError(t, "0 * (1 / 0)", v, api.ErrDiv)
	textError(t, "x = x", v, api.ErrNone)
	textError(t, "x - x", v, api.ErrNone)
	textError(t, "1 / 0 = 1 / 0", v, api.ErrDiv)
	textError(t, "9223372036854775807 < x", v, api.ErrNone)
}

// The left part's error ahead of the right one's, whatever the sign; a part's error ahead of the sign's own.
func TestLeftAheadOfRight(t *testing.T) {
	v := given("a m", 1, least)
	bad := []struct {
		x   api.Expr
		err api.Errno
	}{{variable("x"), api.ErrNone}, {of(div, variable("a"), num(0)), api.ErrDiv}, {of(neg, variable("m")), api.ErrOverflow}, {of(mul, variable("m"), num(2)), api.ErrOverflow}}
	for _, l := range bad {
		for _, r := range bad {
			for _, kind := range []int{add, sub, mul, div, eq, lt} {
				wantError(t, of(kind, l.x, r.x), v, l.err)
				wantError(t, of(kind, l.x, num(0)), v, l.err)
				wantError(t, of(kind, num(0), r.x), v, r.err)
			}
			for _, kind := range []int{eq, and, or} {
				wantError(t, of(kind, of(eq, l.x, num(0)), of(lt, r.x, num(0))), v, l.err)
			}
			wantError(t, of(neg, of(add, of(neg, l.x), r.x)), v, l.err)
		}
	}
	textError(t, "x / 0", v, api.ErrNone)
	textError(t, "0 / (x * 0)", v, api.ErrNone)
	textError(t, "a / 0 + x", v, api.ErrDiv)
	textError(t, "m - 1 + x / 0", v, api.ErrOverflow)
}

// The sum of two may lie within though its parts' order matters.
func TestFromTheLeft(t *testing.T) {
	v := given("m", most)
	textError(t, "m + 1 - 1", v, api.ErrOverflow)
	textNumber(t, "m - 1 + 1", v, most)
	textNumber(t, "m + (1 - 1)", v, most)
	textError(t, "m * 2 / 2", v, api.ErrOverflow)
	textNumber(t, "m / 2 * 2", v, most-1)
	textNumber(t, "7 - 3 - 2", v, 2)
	textNumber(t, "7 - (3 - 2)", v, 6)
	textNumber(t, "12 / 3 / 2", v, 2)
	textNumber(t, "12 / (3 / 2)", v, 12)
	textNumber(t, "2 + 3 * 4 - 10 / 4", v, 12)
}

// 10.3

// badVars is variables that may not be, with vars.Check's error.
func badVars() map[api.Errno][]api.Vars {
	var many api.Vars
	for i := range 65 {
		many.Names = append(many.Names, "v"+strconv.Itoa(100+i))
		many.Vals = append(many.Vals, int64(i))
	}
	return map[api.Errno][]api.Vars{
		api.ErrArg: {
			given("a"), given("", 1), given("a b", 1), given("a", 1, 2), given("b a", 1, 2), given("a a", 1, 1), given("A", 1), given("yes", 1), given("no", 1), given("a1 a 1", 1, 2, 3),
			{Names: []string{""}, Vals: []int64{1}}, {Names: []string{"a b"}, Vals: []int64{1}}, given(strings.Repeat("a", 33), 1), {Names: many.Names, Vals: many.Vals[:64]}, {Names: many.Names[:64], Vals: many.Vals},
		},
		api.ErrLimit: {many},
	}
}

func below(kind, n int, x api.Expr) api.Expr {
	for range n {
		if kind <= not {
			x = of(kind, x)
		} else {
			x = of(kind, num(1), x)
		}
	}
	return x
}

// badTrees is trees that may not be, or that have no type, with types.Truth's error.
func badTrees(t *testing.T) map[api.Errno][]api.Expr {
	return map[api.Errno][]api.Expr{
		api.ErrArg: {
			{}, of(0), of(15), of(-1), of(1<<32 + 1), num(-1), num(least), {Kind: yes, N: 1}, {Kind: 2, N: 1, Name: "a"}, {Kind: 1, Name: "a"}, {Kind: yes, Name: "yes"}, variable(""), variable("A"), variable("yes"), variable("no"), variable(strings.Repeat("a", 33)),
			of(neg), of(not), of(add), of(add, num(1)), of(not, of(yes), of(yes)), of(and, of(yes), of(yes), of(yes)), of(yes, num(1)), {Kind: 2, Name: "a", Kids: []api.Expr{num(1)}},
			of(not, num(-1)), of(and, of(no), of(99)), of(or, of(yes), variable("no")), of(and, num(1), of(99)), of(div, num(1), of(add, num(0), num(-1))),
		},
		api.ErrLimit: {below(neg, 16, num(1)), below(not, 16, of(yes)), below(add, 16, num(1)), below(or, 16, num(1)), of(and, of(no), below(not, 15, of(yes))), below(neg, 1<<12, num(1))},
		api.ErrType: {
			tree(t, "!1"), tree(t, "-yes"), tree(t, "!a"), tree(t, "1 + yes"), tree(t, "no & 1"), tree(t, "yes | 2"), tree(t, "1 = yes"), tree(t, "no = 0"), tree(t, "yes < no"), tree(t, "a & b"), tree(t, "1 & no"), tree(t, "x / 0 = yes"), tree(t, "no & (yes | !(a + 1))"), tree(t, "1 / 0 + yes"), tree(t, "x + no"),
		},
	}
}

func TestTreesThatMayNotBe(t *testing.T) {
	for err, list := range badTrees(t) {
		for _, x := range list {
			wantError(t, x, api.Vars{}, err)
			wantError(t, x, given("a b", 1, 2), err)
			for _, bad := range badVars() {
				for _, v := range bad {
					wantError(t, x, v, err) // the tree's error ahead of the variables'
				}
			}
		}
	}
}

// Though none of them is asked for, or they have the one that is.
func TestVariablesThatMayNotBe(t *testing.T) {
	for err, list := range badVars() {
		for _, v := range list {
			for _, s := range []string{"1", "yes", "no", "a", "a = 1", "v100", "x", "1 / 0", "1 / 0 = 0", "-(-9223372036854775807 - 1) - 1", "no & x = 0", "yes | a = 1"} {
				textError(t, s, v, err) // ahead of what the tree comes to
			}
		}
	}
}

func TestAtTheLimits(t *testing.T) {
	wantNumber(t, below(neg, 15, num(1)), api.Vars{}, -1)
	wantNumber(t, below(neg, 14, num(1)), api.Vars{}, 1)
	wantNumber(t, below(add, 15, num(1)), api.Vars{}, 16)
	wantTruth(t, below(not, 15, of(yes)), api.Vars{}, false)
	wantTruth(t, below(not, 14, of(yes)), api.Vars{}, true)
}

// widest is a tree of one sign with as many leaves as one may have.
func widest(kind int, leaf func(at int) api.Expr) api.Expr {
	var row []api.Expr
	for i := range 1 << 15 {
		row = append(row, leaf(i))
	}
	for len(row) > 1 {
		var above []api.Expr
		for i := 0; i < len(row); i += 2 {
			above = append(above, of(kind, row[i], row[i+1]))
		}
		row = above
	}
	return row[0]
}

func TestWidest(t *testing.T) {
	v := given("a b", 3, -1<<48)
	wantNumber(t, widest(add, func(at int) api.Expr { return num(int64(at)) }), v, 1<<14*(1<<15-1))
	wantNumber(t, widest(add, func(int) api.Expr { return variable("a") }), v, 3<<15)
	wantNumber(t, widest(add, func(int) api.Expr { return variable("b") }), v, least)
	wantError(t, widest(sub, func(at int) api.Expr {
		if at == 1<<15-1 {
			return variable("c")
		}
		return variable("a")
	}), v, api.ErrNone)
	wantTruth(t, widest(and, func(int) api.Expr { return of(yes) }), v, true)
	wantTruth(t, widest(or, func(int) api.Expr { return of(no) }), v, false)
	wantError(t, widest(or, func(int) api.Expr { return of(not, of(no)) }), v, api.ErrLimit)
}

// 10.4

func TestNumberOfATruthAndTruthOfANumber(t *testing.T) {
	v := given("a nil", 1, 0)
	for s, is := range map[string]bool{"yes": true, "no": false, "a = 1": true, "a < nil": false, "!yes": false, "yes & no": false, "no | yes": true} {
		x := tree(t, s)
		if n, err := Number(x, v); n != 0 || err != api.ErrType {
			t.Errorf("Number(%s) = %d, %d", s, n, err)
		}
		if got, err := Truth(x, v); got != is || err != api.OK {
			t.Errorf("Truth(%s) = %v, %d", s, got, err)
		}
	}
	for s, n := range map[string]int64{"0": 0, "1": 1, "a": 1, "nil": 0, "-a": -1, "a + a": 2, "a - a": 0, "a * nil": 0, "nil / a": 0} { // 1 and 0 are no truths
		x := tree(t, s)
		if is, err := Truth(x, v); is || err != api.ErrType {
			t.Errorf("Truth(%s) = %v, %d", s, is, err)
		}
		if got, err := Number(x, v); got != n || err != api.OK {
			t.Errorf("Number(%s) = %d, %d", s, got, err)
		}
	}
}

// Of's error ahead of ErrType.
func TestOfsErrorAheadOfType(t *testing.T) {
	v := given("a", 1)
	for s, err := range map[string]api.Errno{"x = 1": api.ErrNone, "x < 1 & no": api.ErrNone, "1 / 0 = 0": api.ErrDiv, "9223372036854775807 + a < 0": api.ErrOverflow} {
		if n, e := Number(tree(t, s), v); n != 0 || e != err {
			t.Errorf("Number(%s) = %d, %d, want error %d", s, n, e, err)
		}
	}
	for s, err := range map[string]api.Errno{"x": api.ErrNone, "x + 1": api.ErrNone, "1 / 0": api.ErrDiv, "9223372036854775807 + a": api.ErrOverflow} {
		if is, e := Truth(tree(t, s), v); is || e != err {
			t.Errorf("Truth(%s) = %v, %d, want error %d", s, is, e, err)
		}
	}
	wrong := given("b a", 1, 2)
	if n, e := Number(of(yes), wrong); n != 0 || e != api.ErrArg {
		t.Errorf("Number(yes) = %d, %d", n, e)
	}
	if is, e := Truth(num(1), wrong); is || e != api.ErrArg {
		t.Errorf("Truth(1) = %v, %d", is, e)
	}
}

// 10.5, and all of it against what another code says.

// chance is trees and variables by chance, the same in each run.
type chance struct{ at uint64 }

func dice(seed uint64) *chance { return &chance{at: seed*6364136223846793005 + 1442695040888963407} }

func (c *chance) next(n int) int {
	c.at = c.at*6364136223846793005 + 1442695040888963407
	return int(c.at>>33) % n
}

// tree is one that comes to a truth, or to a number, at most so high.
func (c *chance) tree(truth bool, high int) api.Expr {
	if high == 1 || c.next(5) == 0 {
		return c.leaf(truth)
	}
	kid := func(truth bool) api.Expr { return c.tree(truth, high-1) }
	if !truth {
		kind := []int{neg, add, sub, mul, div}[c.next(5)]
		if kind == neg {
			return of(neg, kid(false))
		}
		return of(kind, kid(false), kid(false))
	}
	kind := []int{not, and, or, lt, eq, eq}[c.next(6)]
	switch kind {
	case not:
		return of(not, kid(true))
	case lt:
		return of(lt, kid(false), kid(false))
	case eq:
		both := c.next(2) == 0
		return of(eq, kid(both), kid(both))
	}
	return of(kind, kid(true), kid(true))
}

func (c *chance) leaf(truth bool) api.Expr {
	switch {
	case truth:
		return of(yes + c.next(2))
	case c.next(2) == 0:
		return variable([]string{"a", "ab", "b", "c", "x0"}[c.next(5)])
	}
	return num([]int64{0, 1, 2, 3, 7, 10, 100, 1 << 31, 1 << 62, most}[c.next(10)])
}

// vars is some of the variables that leaves ask for, with numbers of both kinds, small ones mostly.
func (c *chance) vars() api.Vars {
	var v api.Vars
	for _, name := range []string{"a", "aa", "ab", "b", "c", "x0"} {
		if c.next(12) > 0 {
			v.Names = append(v.Names, name)
			n := int64(c.next(21) - 10)
			if c.next(4) == 0 {
				n = []int64{least, least + 1, most, most - 1, -1 << 62, 1 << 32}[c.next(6)]
			}
			v.Vals = append(v.Vals, n)
		}
	}
	return v
}

// outcome is a number without bounds, a truth, or an error's number.
type outcome struct {
	n   *big.Int
	is  bool
	err api.Errno
}

// byBook is what 10.2 says of a tree that has a type, by a map, and by numbers without bounds.
func byBook(x api.Expr, v map[string]int64) outcome {
	switch x.Kind {
	case 1:
		return outcome{n: big.NewInt(x.N)}
	case 2:
		n, found := v[x.Name]
		if !found {
			return outcome{err: api.ErrNone}
		}
		return outcome{n: big.NewInt(n)}
	case yes, no:
		return outcome{is: x.Kind == yes}
	}
	left := byBook(x.Kids[0], v)
	settled := x.Kind == and && !left.is || x.Kind == or && left.is
	switch {
	case left.err != api.OK || settled:
		return left
	case x.Kind == not:
		return outcome{is: !left.is}
	case x.Kind == neg:
		return within(new(big.Int).Neg(left.n))
	}
	right := byBook(x.Kids[1], v)
	if right.err != api.OK || x.Kind == and || x.Kind == or {
		return right
	}
	return byBookTwo(x.Kind, left, right)
}

func byBookTwo(kind int, left, right outcome) outcome {
	n := new(big.Int)
	switch kind {
	case eq:
		if left.n == nil {
			return outcome{is: left.is == right.is}
		}
		return outcome{is: left.n.Cmp(right.n) == 0}
	case lt:
		return outcome{is: left.n.Cmp(right.n) < 0}
	case add:
		return within(n.Add(left.n, right.n))
	case sub:
		return within(n.Sub(left.n, right.n))
	case mul:
		return within(n.Mul(left.n, right.n))
	}
	if right.n.Sign() == 0 {
		return outcome{err: api.ErrDiv}
	}
	return within(n.Quo(left.n, right.n))
}

func within(n *big.Int) outcome {
	if !n.IsInt64() {
		return outcome{err: api.ErrOverflow}
	}
	return outcome{n: n}
}

func TestAgainstTheBook(t *testing.T) {
	count := map[string]int{}
	for seed := range uint64(20000) {
		c := dice(seed)
		truth := c.next(2) == 0
		x, v := c.tree(truth, 1+c.next(7)), c.vars()
		byName := map[string]int64{}
		for i, name := range v.Names {
			byName[name] = v.Vals[i]
		}
		o := byBook(x, byName)
		folded, err := types.Fold(x)
		if is, e := types.Truth(x); err != api.OK || e != api.OK || is != truth {
			t.Fatalf("%v: %d, %d, %v", x, err, e, is)
		}
		for _, y := range []api.Expr{x, folded} { // with all that is known reckoned it comes to the same
			switch {
			case o.err != api.OK:
				count[o.err.Error()]++
				wantError(t, y, v, o.err)
			case truth:
				count[strconv.FormatBool(o.is)]++
				wantTruth(t, y, v, o.is)
			default:
				count["number"]++
				wantNumber(t, y, v, o.n.Int64())
			}
		}
	}
	for _, what := range []string{"number", "true", "false", "error 9", "error 12", "error 13"} {
		if count[what] < 1500 {
			t.Errorf("too few of one: %v", count)
		}
	}
	if len(count) != 6 {
		t.Errorf("%v", count)
	}
}

func TestFoldedTheSame(t *testing.T) {
	v := given("a b m", 7, 1, least)
	for _, s := range []string{
		"no & x = 0", "yes | x = 0", "yes & x = 0", "no | 1 / 0 = 0", "1 + 2 < a & yes", "a < 1 + 2 | !yes", "9223372036854775807 + 1", "3 - 4", "3 - 4 < 0", "-0 + a", "-(2 * 3) * a", "1 / (2 - 2)", "7 / 2 + a", "(1 = 1) = (a < b)",
		"m - 2 * 3", "m / (2 - 3)", "a / (b - 1) + 2 * 3", "!(yes & a < 2 * 4)", "no = (1 < 2)", "x + 1 / 0", "1 / 0 + x",
	} {
		x := tree(t, s)
		y, err := types.Fold(x)
		value, first := Of(x, v)
		if folded, second := Of(y, v); err != api.OK || folded != value || second != first {
			t.Errorf("%s: %v, %d, folded (%d) %v, %d", s, value, first, err, folded, second)
		}
	}
}

// R3, P6

// What lies behind a list's length is no part of a tree, and no variable.
func TestBehindTheLength(t *testing.T) {
	kids := []api.Expr{num(1), variable("a"), variable("z"), num(-1), of(99)}
	names, vals := []string{"a", "b", "A"}, []int64{5, 6, 7}
	kids0, names0, vals0 := slices.Clone(kids), slices.Clone(names), slices.Clone(vals)
	x := api.Expr{Kind: add, Kids: kids[:2]}
	wantNumber(t, x, api.Vars{Names: names[:1], Vals: vals[:1]}, 6)
	wantNumber(t, x, api.Vars{Names: names[:2], Vals: vals[:2]}, 6)
	wantError(t, variable("b"), api.Vars{Names: names[:1], Vals: vals[:1]}, api.ErrNone)
	wantError(t, x, api.Vars{Names: names[:0], Vals: vals[:0]}, api.ErrNone)
	wantTruth(t, api.Expr{Kind: yes, Kids: kids[:0]}, api.Vars{Names: names[:0]}, true)
	if !reflect.DeepEqual(kids, kids0) || !slices.Equal(names, names0) || !slices.Equal(vals, vals0) {
		t.Error("a list was changed")
	}
}

// The same tree with others is asked anew: nothing is kept.
func TestNothingKept(t *testing.T) {
	x := tree(t, "a / b < c")
	wantTruth(t, x, given("a b c", 7, 2, 4), true)
	wantTruth(t, x, given("a b c", 7, 2, 3), false)
	wantError(t, x, given("a b c", 7, 0, 3), api.ErrDiv)
	wantError(t, x, given("a b", 7, 2), api.ErrNone)
	wantTruth(t, x, given("a b c", 7, 2, 4), true)
	v := given("a b c", 7, 2, 4)
	wantTruth(t, x, v, true)
	v.Vals[2] = 3
	wantTruth(t, x, v, false)
	x.Kids[1] = num(9)
	wantTruth(t, x, v, true)
}
