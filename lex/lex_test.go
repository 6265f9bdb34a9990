package lex

import (
	"math"
	"math/big"
	"regexp"
	"slices"
	"strings"
	"testing"
	"unsafe"

	"funicular/api"
)

// number, name and sign are words as promise 6.1 says them.
func number(n int64, at int) api.Word { return api.Word{Kind: 1, N: n, At: at} }

func name(text string, at int) api.Word { return api.Word{Kind: 2, Text: text, At: at} }

func sign(text string, at int) api.Word { return api.Word{Kind: 3, Text: text, At: at} }

// want fails the test, if a text has other words than these, or a fault.
func want(t *testing.T, s string, words ...api.Word) {
	t.Helper()
	got, fault := Split(s)
	if !slices.Equal(got, words) || fault != (api.Fault{}) {
		t.Errorf("Split(%q) = %v, %v, want %v", s, got, fault, words)
	}
}

// wantFault fails the test, if a text has words, or another fault.
func wantFault(t *testing.T, s string, err api.Errno, at int) {
	t.Helper()
	got, fault := Split(s)
	if len(got) != 0 || fault != (api.Fault{Err: err, At: at}) {
		t.Errorf("Split(%q) = %v, %v, want error %d at %d", s, got, fault, err, at)
	}
}

// blanks is n of them.
func blanks(n int) string { return strings.Repeat(" ", n) }

func TestExample(t *testing.T) {
	want(t, "a1 < 20&!b", name("a1", 0), sign("<", 3), number(20, 5), sign("&", 7), sign("!", 8), name("b", 9))
	wantFault(t, "a 2b", api.ErrSyntax, 3)
}

// 6.1

func TestNumbers(t *testing.T) {
	for s, n := range map[string]int64{
		"0": 0, "1": 1, "9": 9, "10": 10, "09": 9, "20": 20, "1234567890": 1234567890,
		"2147483647": math.MaxInt32, "2147483648": math.MaxInt32 + 1, "4294967296": 1 << 32,
		"999999999999999999": 999999999999999999, "1000000000000000000": 1000000000000000000,
		"9223372036854775799": math.MaxInt64 - 8, "9223372036854775806": math.MaxInt64 - 1, "9223372036854775807": math.MaxInt64,
	} {
		want(t, s, number(n, 0))
		want(t, "  "+s+" ", number(n, 2))
		want(t, s+"+"+s, number(n, 0), sign("+", len(s)), number(n, len(s)+1))
		want(t, s+" "+s, number(n, 0), number(n, len(s)+1))
	}
}

func TestNoughtsAhead(t *testing.T) {
	for _, noughts := range []int{0, 1, 2, 17, 18, 19, 20, 63, 64, 65, 500, 4000, api.MaxText - 19} {
		ahead := strings.Repeat("0", noughts)
		want(t, ahead+"7", number(7, 0))
		want(t, ahead+"0", number(0, 0))
		want(t, ahead+"9223372036854775807", number(math.MaxInt64, 0))
		wantFault(t, ahead+"9223372036854775808", api.ErrOverflow, 0)
	}
	want(t, strings.Repeat("0", api.MaxText), number(0, 0))
	want(t, strings.Repeat("0", api.MaxText-1)+"1", number(1, 0))
}

func TestNames(t *testing.T) {
	for _, s := range []string{"a", "z", "m", "ab", "az", "za", "a0", "a9", "a1b2", "a00", "yes", "no", "x9z", "abcdefghijklmnopqrstuvwxyz", "q0123456789"} {
		want(t, s, name(s, 0))
		want(t, "   "+s+"  ", name(s, 3))
		want(t, s+" "+s, name(s, 0), name(s, len(s)+1))
		want(t, "-"+s+")", sign("-", 0), name(s, 1), sign(")", 1+len(s)))
	}
}

func TestNamesOfEachLength(t *testing.T) {
	for n := 1; n <= 100; n++ {
		for _, s := range []string{strings.Repeat("k", n), "k" + strings.Repeat("7", n-1)} {
			if n <= 32 {
				want(t, s, name(s, 0))
				want(t, "1 "+s+"+", number(1, 0), name(s, 2), sign("+", 2+n))
				want(t, s+" k", name(s, 0), name("k", n+1))
			} else {
				wantFault(t, s, api.ErrSyntax, 0)
				wantFault(t, "1 "+s+"+", api.ErrSyntax, 2)
				wantFault(t, "(a="+s+" 9b", api.ErrSyntax, 3)
			}
		}
	}
	wantFault(t, strings.Repeat("a", api.MaxText), api.ErrSyntax, 0)
}

func TestSigns(t *testing.T) {
	for _, s := range []string{"+", "-", "*", "/", "=", "<", "(", ")", "&", "|", "!"} {
		want(t, s, sign(s, 0))
		want(t, s+s, sign(s, 0), sign(s, 1))
		want(t, " "+s+" ", sign(s, 1))
		want(t, "a"+s+"1"+s+"b2", name("a", 0), sign(s, 1), number(1, 2), sign(s, 3), name("b2", 4))
	}
	want(t, "<=", sign("<", 0), sign("=", 1))
	want(t, "-1", sign("-", 0), number(1, 1))
	want(t, "+-*/=<()&|!",
		sign("+", 0), sign("-", 1), sign("*", 2), sign("/", 3), sign("=", 4), sign("<", 5),
		sign("(", 6), sign(")", 7), sign("&", 8), sign("|", 9), sign("!", 10))
}

// A name's digits are no number, and digits ahead of a letter no part of a name.
func TestDigitsAndLetters(t *testing.T) {
	want(t, "a12", name("a12", 0))
	want(t, "a 12", name("a", 0), number(12, 2))
	want(t, "12 a", number(12, 0), name("a", 3))
	wantFault(t, "12a", api.ErrSyntax, 2)
}

// 6.2

func TestNoWords(t *testing.T) {
	want(t, "")
	for _, n := range []int{1, 2, 3, 100, api.MaxText - 1, api.MaxText} {
		want(t, blanks(n))
	}
}

func TestBlanksAheadAndBehind(t *testing.T) {
	for ahead := range 5 {
		for behind := range 5 {
			want(t, blanks(ahead)+"a"+blanks(behind), name("a", ahead))
			want(t, blanks(ahead)+"1"+blanks(behind), number(1, ahead))
			want(t, blanks(ahead)+"("+blanks(behind)+")", sign("(", ahead), sign(")", ahead+1+behind))
			wantFault(t, blanks(ahead)+"?"+blanks(behind), api.ErrSyntax, ahead)
		}
	}
}

func TestMostBytes(t *testing.T) {
	want(t, blanks(api.MaxText-1)+"a", name("a", api.MaxText-1))
	want(t, "a"+blanks(api.MaxText-1), name("a", 0))
	words, fault := Split(strings.Repeat("!", api.MaxText))
	if len(words) != 4096 || fault != (api.Fault{}) {
		t.Fatalf("%d words, %v", len(words), fault)
	}
	for i, w := range words {
		if w != sign("!", i) {
			t.Fatalf("word %d: %v", i, w)
		}
	}
	wantFault(t, blanks(api.MaxText-1)+"?", api.ErrSyntax, 4095)
}

// However it goes on, and whatever else is wrong with it.
func TestTooManyBytes(t *testing.T) {
	for _, s := range []string{" ", "a", "?", "1", "+", "1a", "9", "\n", "é", "0"} {
		for _, n := range []int{4097, 4098, 8192, 1 << 16} {
			wantFault(t, strings.Repeat(s, n)[:n], api.ErrLimit, 0)
		}
	}
	wantFault(t, "? 1a "+blanks(4092), api.ErrLimit, 0)
	wantFault(t, "? 1a "+blanks(4091), api.ErrSyntax, 0)
}

func TestTooGreat(t *testing.T) {
	for _, s := range []string{
		"9223372036854775808", "9223372036854775809", "9223372036854775810", "9999999999999999999", "10000000000000000000",
		"18446744073709551615", "18446744073709551616", "18446744073709551617", "36893488147419103233",
		"340282366920938463463374607431768211456", "340282366920938463463374607431768211457", strings.Repeat("9", api.MaxText-10),
	} {
		wantFault(t, s, api.ErrOverflow, 0)
		wantFault(t, "a<"+s, api.ErrOverflow, 2)
		wantFault(t, "1 "+s+" ", api.ErrOverflow, 2)
		wantFault(t, s+"b", api.ErrOverflow, 0)
		wantFault(t, " -"+s+"b2", api.ErrOverflow, 2)
		wantFault(t, s+" ?", api.ErrOverflow, 0)
		wantFault(t, s+"?", api.ErrOverflow, 0)
		want(t, "a"+s[:min(len(s), 31)], name("a"+s[:min(len(s), 31)], 0))
	}
}

func TestALetterBehindDigits(t *testing.T) {
	for c := byte('a'); c <= 'z'; c++ {
		for _, s := range []string{"0", "2", "000", "9223372036854775807", strings.Repeat("0", 40)} {
			wantFault(t, s+string(c), api.ErrSyntax, len(s))
			wantFault(t, "a "+s+string(c)+"1 ?", api.ErrSyntax, 2+len(s))
		}
	}
	wantFault(t, "1"+strings.Repeat("a", 40), api.ErrSyntax, 1)
	wantFault(t, strings.Repeat("0", api.MaxText-1)+"a", api.ErrSyntax, api.MaxText-1)
}

// Each byte that is none of 6.1's, wherever it stands.
func TestBytesThatBeginNoWord(t *testing.T) {
	for c := range 256 {
		if strings.IndexByte(" +-*/=<()&|!0123456789abcdefghijklmnopqrstuvwxyz", byte(c)) >= 0 {
			if _, fault := Split(string([]byte{byte(c)})); fault != (api.Fault{}) {
				t.Errorf("byte %d: %v", c, fault)
			}
			continue
		}
		s := string([]byte{byte(c)})
		wantFault(t, s, api.ErrSyntax, 0)
		wantFault(t, "  "+s, api.ErrSyntax, 2)
		wantFault(t, s+"a", api.ErrSyntax, 0)
		wantFault(t, "a"+s+"b", api.ErrSyntax, 1)
		wantFault(t, "12"+s, api.ErrSyntax, 2)
		wantFault(t, "a<"+s, api.ErrSyntax, 2)
		wantFault(t, strings.Repeat("a", 32)+s, api.ErrSyntax, 32)
		wantFault(t, strings.Repeat("a", 33)+s, api.ErrSyntax, 0)
	}
}

// Letters and digits of other scripts are none, and are bytes.
func TestOtherScripts(t *testing.T) {
	for s, at := range map[string]int{"é": 0, "aé": 1, "a é b": 2, "１": 0, "1２": 1, "a\u00a0b": 1, "жa": 0, "a1ſ": 2, "−1": 0, "A": 0, "aB": 1, "1A": 1} {
		wantFault(t, s, api.ErrSyntax, at)
	}
}

func TestTheFirstFault(t *testing.T) {
	for _, c := range []struct {
		s   string
		err api.Errno
		at  int
	}{
		{"a < 20 & ?", api.ErrSyntax, 9},
		{"? 9223372036854775808", api.ErrSyntax, 0},
		{"9223372036854775808 ?", api.ErrOverflow, 0},
		{"1a 9223372036854775808", api.ErrSyntax, 1},
		{"9223372036854775808 1a", api.ErrOverflow, 0},
		{"a + 9223372036854775808 + 1a", api.ErrOverflow, 4},
		{strings.Repeat("a", 33) + " 9223372036854775808", api.ErrSyntax, 0},
		{"9223372036854775808 " + strings.Repeat("a", 33), api.ErrOverflow, 0},
		{"1" + strings.Repeat("a", 33), api.ErrSyntax, 1},
		{"(a = 1) & b # c", api.ErrSyntax, 12},
		{"a >b", api.ErrSyntax, 2},
		{"a_b", api.ErrSyntax, 1},
		{"1.5", api.ErrSyntax, 1},
		{"1_000", api.ErrSyntax, 1},
		{"0x10", api.ErrSyntax, 1},
		{"1e5", api.ErrSyntax, 1},
		{"a\tb", api.ErrSyntax, 1},
		{"a\n", api.ErrSyntax, 1},
		{"a\x00", api.ErrSyntax, 1},
	} {
		wantFault(t, c.s, c.err, c.at)
	}
}

// R3 and P6

func TestAnswersShareNoMemory(t *testing.T) {
	s := strings.Clone("paid + a1 <(b)")
	first, _ := Split(s)
	second, _ := Split(s)
	begin, end := uintptr(unsafe.Pointer(unsafe.StringData(s))), uintptr(len(s))
	for _, w := range first {
		if at := uintptr(unsafe.Pointer(unsafe.StringData(w.Text))); w.Text != "" && at-begin < end {
			t.Errorf("%v lies within the text", w)
		}
	}
	was := slices.Clone(second)
	for i := range first {
		first[i] = api.Word{}
	}
	if !slices.Equal(second, was) {
		t.Errorf("two answers share a list: %v", second)
	}
	want(t, s, was...)
}

// worded is Split as promises 6.1 and 6.2 word it, by expressions of another kind.
func worded(s string) ([]api.Word, api.Fault) {
	if len(s) > 4096 {
		return nil, api.Fault{Err: api.ErrLimit}
	}
	kinds := regexp.MustCompile(`^(?:( +)|([0-9]+)([a-z]?)|([a-z][a-z0-9]*)|([-+*/=<()&|!]))`)
	var words []api.Word
	for at := 0; at < len(s); {
		m := kinds.FindStringSubmatchIndex(s[at:])
		if m == nil {
			return nil, api.Fault{Err: api.ErrSyntax, At: at}
		}
		text := s[at : at+m[1]]
		switch {
		case m[4] >= 0:
			n, _ := new(big.Int).SetString(s[at:at+m[5]], 10)
			if n.BitLen() > 63 {
				return nil, api.Fault{Err: api.ErrOverflow, At: at}
			}
			if m[7] > m[6] {
				return nil, api.Fault{Err: api.ErrSyntax, At: at + m[6]}
			}
			words = append(words, number(n.Int64(), at))
		case m[8] >= 0 && len(text) > 32:
			return nil, api.Fault{Err: api.ErrSyntax, At: at}
		case m[8] >= 0:
			words = append(words, name(text, at))
		case m[10] >= 0:
			words = append(words, sign(text, at))
		}
		at += m[1]
	}
	return words, api.Fault{}
}

// someText is a text of pieces that look like chance, the same ones for the same seed.
func someText(n int, seed uint64) string {
	pieces := []string{
		" ", " ", "  ", "a", "b1", "paid", "0", "7", "20", "+", "-", "*", "/", "=", "<", "(", ")", "&", "|", "!", " ", "x ", "1 ", " 00",
		"9223372036854775807", "922337203685477580", "abcdefghijklmnopqrstuvwxyz", "?", "A", "\xff",
	}
	var b strings.Builder
	for range n {
		seed = seed*6364136223846793005 + 1442695040888963407
		most := uint64(len(pieces))
		if seed>>20%4 > 0 { // mostly such as can do no harm
			most = 24
		}
		b.WriteString(pieces[seed>>33%most])
	}
	return b.String()
}

func TestManyTexts(t *testing.T) {
	words, faults := 0, map[api.Fault]int{}
	for seed := range uint64(20000) {
		s := someText(int(seed%24), seed)
		list, fault := worded(s)
		got, told := Split(s)
		if !slices.Equal(got, list) || told != fault {
			t.Fatalf("Split(%q) = %v, %v, want %v, %v", s, got, told, list, fault)
		}
		words += len(list)
		faults[api.Fault{Err: fault.Err}]++
	}
	if words < 10000 || len(faults) != 3 || faults[api.Fault{}] < 2000 {
		t.Errorf("the texts are too much alike: %d words, %v", words, faults)
	}
}

// 6.3

func TestTwoTexts(t *testing.T) {
	both := 0
	for seed := range uint64(20000) {
		a, b := someText(int(seed%13), seed), someText(int(seed%7), seed+1)
		wordsA, faultA := Split(a)
		wordsB, faultB := Split(b)
		if faultA.Err != api.OK {
			wantFault(t, a+" "+b, faultA.Err, faultA.At)
			continue
		}
		behind := len(a) + 1
		if faultB.Err != api.OK {
			wantFault(t, a+" "+b, faultB.Err, behind+faultB.At)
			continue
		}
		for _, w := range wordsB {
			w.At += behind
			wordsA = append(wordsA, w)
		}
		want(t, a+" "+b, wordsA...)
		both++
	}
	if both < 2000 {
		t.Errorf("two texts without a fault: %d times alone", both)
	}
}

func TestTwoTextsOfKnownWords(t *testing.T) {
	want(t, "a1"+" "+"b2", name("a1", 0), name("b2", 3))
	want(t, "12"+" "+"34", number(12, 0), number(34, 3))
	want(t, "1"+" "+"a", number(1, 0), name("a", 2))
	want(t, "a"+" "+"", name("a", 0))
	want(t, ""+" "+"a", name("a", 1))
	want(t, ""+" "+"")
	long := strings.Repeat("a", 32)
	want(t, long+" "+long, name(long, 0), name(long, 33))
}
