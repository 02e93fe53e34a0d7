package tests

import (
	"math"
	"math/big"
	"regexp"
	"slices"
	"strconv"
	"strings"
	"testing"

	"loop.example/g01041/impl"
)

// invalid holds texts that are no valid UTF-8, or that a decoder might take for
// such: stray and missing continuation bytes, an overlong newline, a surrogate,
// and the replacement character itself.
var invalid = []string{
	"\x80", "\xff", "\xc3", "\xc3\n", "\xe2\x82", "\xe2\x82\n", "\xc0\x8a",
	"\xed\xa0\x80", "\xf0\x9f\x98", "a\xffb", "\xffa", "1\xff", "\xff1", "\xef\xbf\xbd",
}

// allTexts returns every text of at most n parts of the alphabet.
func allTexts(alphabet []string, n int) []string {
	all := []string{""}
	last := all
	for range n {
		var next []string
		for _, s := range last {
			for _, a := range alphabet {
				next = append(next, s+a)
			}
		}
		all = append(all, next...)
		last = next
	}
	return all
}

func allBytes() string {
	b := make([]byte, 256)
	for i := range b {
		b[i] = byte(i)
	}
	return string(b)
}

func TestFormatInt(t *testing.T) {
	cases := map[int]string{
		0: "0", 1: "1", -1: "-1", 9: "9", 10: "10", -10: "-10", 100: "100", 1041: "1041", -5: "-5",
		math.MaxInt:     "9223372036854775807",
		math.MaxInt - 1: "9223372036854775806",
		math.MinInt:     "-9223372036854775808",
		math.MinInt + 1: "-9223372036854775807",
	}
	for n, want := range cases {
		if got := impl.FormatInt(n); got != want {
			t.Errorf("FormatInt(%d) = %q, want %q", n, got, want)
		}
	}
}

func TestIntsAreRecovered(t *testing.T) {
	check := func(n int) {
		s := impl.FormatInt(n)
		if got, ok := impl.ParseInt(s); got != n || !ok {
			t.Errorf("ParseInt(%q) = %d, %v, want %d, true", s, got, ok, n)
		}
	}
	for n := -2000; n <= 2000; n++ {
		check(n)
		check(math.MinInt + 2000 + n)
		check(math.MaxInt - 2000 - n)
	}
	for shift := range 64 {
		n := 1 << shift
		check(n)
		check(-n)
		check(n - 1)
	}
	for n := 1; n <= math.MaxInt/10; n *= 10 {
		check(10 * n)
		check(10*n - 1)
		check(-10 * n)
		check(1 - 10*n)
	}
}

func TestParseIntRejects(t *testing.T) {
	texts := []string{
		"", "-", "--", "--1", "-0", "+0", "+1", "+", "00", "07", "-07", "-00", "0x1", "0b1", "0o7", "1_000", "1e3", "1.0",
		" 1", "1 ", "1\n", "\t1", "1-", "1-2", "1,2", "a", "1a", "\x00", "1\x00", "inf", "NaN", "\u2212\x31", "\u0661", "\uff11",
		"9223372036854775808", "-9223372036854775809", "9223372036854775810", "10000000000000000000",
		"18446744073709551615", "18446744073709551616", "18446744073709551617", "-18446744073709551616",
		"09223372036854775807", "-09223372036854775808",
		strings.Repeat("9", 5000), "-" + strings.Repeat("9", 5000), strings.Repeat("0", 5000) + "1",
	}
	for _, s := range append(texts, invalid...) {
		if got, ok := impl.ParseInt(s); got != 0 || ok {
			t.Errorf("ParseInt(%q) = %d, %v, want 0, false", s, got, ok)
		}
	}
}

func TestParseIntOfAllShortTexts(t *testing.T) {
	decimal := regexp.MustCompile(`^(0|-?[1-9][0-9]*)$`)
	least, greatest := big.NewInt(math.MinInt), big.NewInt(math.MaxInt)
	texts := allTexts([]string{"0", "1", "9", "-", "+", "_", " ", "\n", "x", "\xff", "\u0663"}, 4)
	// Around both ends of the range, all last two digits.
	for i := range 100 {
		end := strconv.Itoa(100 + i)[1:]
		texts = append(texts, "92233720368547758"+end, "-92233720368547758"+end, "922337203685477580"+end)
	}
	for _, s := range texts {
		want, wantOk := 0, false
		if decimal.MatchString(s) {
			n, _ := new(big.Int).SetString(s, 10)
			if n.Cmp(least) >= 0 && n.Cmp(greatest) <= 0 {
				want, wantOk = int(n.Int64()), true
			}
		}
		if got, ok := impl.ParseInt(s); got != want || ok != wantOk {
			t.Errorf("ParseInt(%q) = %d, %v, want %d, %v", s, got, ok, want, wantOk)
		}
	}
}

func TestIsDigits(t *testing.T) {
	for _, s := range []string{"0", "9", "00", "09", "0123456789", strings.Repeat("7", 5000), "18446744073709551616"} {
		if !impl.IsDigits(s) {
			t.Errorf("IsDigits(%q) = false", s)
		}
	}
	bad := []string{"", "-", "-1", "+1", "1-", " 1", "1 ", "1\n", "1a", "a1", "1.5", "1\x00", "\u0661", "\uff11", "1\u0661", "\xb1"}
	for _, s := range append(bad, invalid...) {
		if impl.IsDigits(s) {
			t.Errorf("IsDigits(%q) = true", s)
		}
	}
	for b := range 256 {
		one := string([]byte{byte(b)})
		want := '0' <= b && b <= '9'
		for _, s := range []string{one, "5" + one, one + "5", "5" + one + "5"} {
			if impl.IsDigits(s) != want {
				t.Errorf("IsDigits(%q) = %v", s, !want)
			}
		}
	}
}

func TestIsName(t *testing.T) {
	for _, s := range []string{"a", "z", "x1", "z9", "a0", "abcdefgh", "a1234567", "zzzzzzz0", "a1b2c3d4"} {
		if !impl.IsName(s) {
			t.Errorf("IsName(%q) = false", s)
		}
	}
	bad := []string{
		"", "1", "1x", "0a", "A", "aA", "Aa", "a_", "_a", "a b", " a", "a ", "a\n", "a-", "a\x00", "\u00e9", "a\u00e9", "a\uff11", "\uff41",
		"abcdefghi", "a12345678", "12345678", strings.Repeat("a", 5000), "abcdefg\u00e9", "abcdefg\xff",
	}
	for _, s := range append(bad, invalid...) {
		if impl.IsName(s) {
			t.Errorf("IsName(%q) = true", s)
		}
	}
	for n := range 20 {
		if got, want := impl.IsName(strings.Repeat("a", n)), 1 <= n && n <= 8; got != want {
			t.Errorf("IsName of %d letters = %v", n, got)
		}
	}
}

func TestIsNameAtEveryByte(t *testing.T) {
	for b := range 256 {
		one := string([]byte{byte(b)})
		letter := 'a' <= b && b <= 'z'
		digit := '0' <= b && b <= '9'
		if impl.IsName(one) != letter || impl.IsName(one+"a") != letter {
			t.Errorf("IsName with the first byte %d: want %v", b, letter)
		}
		for n := 1; n < 8; n++ {
			s := strings.Repeat("a", n) + one
			if impl.IsName(s) != (letter || digit) {
				t.Errorf("IsName(%q): want %v", s, letter || digit)
			}
		}
	}
}

func TestSplitAny(t *testing.T) {
	cases := []struct {
		s, by string
		want  []string
	}{
		{"", "", []string{""}},
		{"", ",", []string{""}},
		{"abc", "", []string{"abc"}},
		{"abc", ",", []string{"abc"}},
		{"a,b c", ", ", []string{"a", "b", "c"}},
		{"a,b c", ",", []string{"a", "b c"}},
		{"a, b", ", ", []string{"a", "", "b"}},
		{"a,b", ",,", []string{"a", "b"}},
		{",", ",", []string{"", ""}},
		{",,a,", ",", []string{"", "", "a", ""}},
		{"a\nb\n", "\n", []string{"a", "b", ""}},
		{"a\x00b", "\x00", []string{"a", "b"}},
		// é is C3 A9, è is C3 A8: they share the first byte.
		{"\u00e9", "\u00e8", []string{"", "\xa9"}},
		{"x\u00e9y", "\u00e9", []string{"x", "", "y"}},
		{"a\xffb", "\xff", []string{"a", "b"}},
		{"a\xffb", "\xfe", []string{"a\xffb"}},
		// The replacement character is EF BF BD and has nothing to do with FF.
		{"a\xffb", "\ufffd", []string{"a\xffb"}},
		{"a\ufffdb", "\xff", []string{"a\ufffdb"}},
		{"a\ufffdb", "\xbf", []string{"a\xef", "\xbdb"}},
	}
	for _, c := range cases {
		if got := impl.SplitAny(c.s, c.by); !slices.Equal(got, c.want) {
			t.Errorf("SplitAny(%q, %q) = %q, want %q", c.s, c.by, got, c.want)
		}
	}
}

// checkRecovered puts s together again from its parts and from the bytes of by
// in s, and so checks that each split is at such a byte and none is left out.
func checkRecovered(t *testing.T, s string, by string) {
	t.Helper()
	var between []byte
	for _, b := range []byte(s) {
		if strings.IndexByte(by, b) >= 0 {
			between = append(between, b)
		}
	}
	parts := impl.SplitAny(s, by)
	if len(parts) != len(between)+1 {
		t.Errorf("SplitAny(%q, %q) has %d elements, want %d", s, by, len(parts), len(between)+1)
		return
	}
	again := parts[0]
	for i, b := range between {
		again += string([]byte{b}) + parts[i+1]
	}
	if again != s {
		t.Errorf("SplitAny(%q, %q) = %q, from which %q is recovered", s, by, parts, again)
	}
	for _, p := range parts {
		for _, b := range []byte(p) {
			if strings.IndexByte(by, b) >= 0 {
				t.Errorf("SplitAny(%q, %q) has the part %q", s, by, p)
			}
		}
	}
}

func TestSplitAnyIsRecovered(t *testing.T) {
	texts := allTexts([]string{"a", ",", " ", "\xff", "\xc3", "\xa9"}, 4)
	for _, s := range append(texts, allBytes(), strings.Repeat(allBytes(), 3)) {
		for _, by := range []string{"", ",", ", ", "\xff", "\u00e9", "\xa9,", "a,\xff\xc3\xa9 ", allBytes()} {
			checkRecovered(t, s, by)
		}
	}
	for b := range 256 {
		by := string([]byte{byte(b)})
		checkRecovered(t, allBytes(), by)
		checkRecovered(t, "\u00e9\u20ac\U0001f600"+by+"\ufffd", by)
		if got := impl.Join(impl.SplitAny(allBytes()+by, by), by); got != allBytes()+by {
			t.Errorf("Join of SplitAny at the byte %d = %q", b, got)
		}
	}
}

func TestSplitLines(t *testing.T) {
	cases := []struct {
		s    string
		want []string
	}{
		{"", nil},
		{"a", []string{"a"}},
		{"a\n", []string{"a"}},
		{"a\nb", []string{"a", "b"}},
		{"a\nb\n", []string{"a", "b"}},
		{"\n", []string{""}},
		{"\n\n", []string{"", ""}},
		{"\na", []string{"", "a"}},
		{"a\n\nb\n\n", []string{"a", "", "b", ""}},
		{"a\n ", []string{"a", " "}},
		{"a\r\nb\r", []string{"a\r", "b\r"}},
		{"a\u2028b\u0085c\vd\fe", []string{"a\u2028b\u0085c\vd\fe"}},
		{"\xff\n\xc3\n\xe2\x82\n\x80", []string{"\xff", "\xc3", "\xe2\x82", "\x80"}},
		{"\xc0\x8a", []string{"\xc0\x8a"}},
		{"\u010a\u0a00", []string{"\u010a\u0a00"}},
		{"\ufffd\n\xff\n", []string{"\ufffd", "\xff"}},
	}
	for _, c := range cases {
		if got := impl.SplitLines(c.s); !slices.Equal(got, c.want) {
			t.Errorf("SplitLines(%q) = %q, want %q", c.s, got, c.want)
		}
	}
}

func TestLinesAreRecovered(t *testing.T) {
	texts := allTexts([]string{"a", "\n", "\r", "\xff", "\xe2", "\x82"}, 5)
	for _, s := range append(append(texts, allBytes()), invalid...) {
		lines := impl.SplitLines(s)
		again := impl.Join(lines, "\n")
		if strings.HasSuffix(s, "\n") {
			again += "\n"
		}
		if again != s {
			t.Errorf("SplitLines(%q) = %q, from which %q is recovered", s, lines, again)
		}
		want := strings.Count(s, "\n")
		if s != "" && !strings.HasSuffix(s, "\n") {
			want++
		}
		if len(lines) != want {
			t.Errorf("SplitLines(%q) has %d lines, want %d", s, len(lines), want)
		}
	}
}

func TestJoin(t *testing.T) {
	cases := []struct {
		l    []string
		by   string
		want string
	}{
		{nil, ",", ""},
		{[]string{}, ",", ""},
		{[]string{""}, ",", ""},
		{[]string{"a"}, ",", "a"},
		{[]string{"a", "b"}, ",", "a,b"},
		{[]string{"a", "b", "c"}, "", "abc"},
		{[]string{"a", "b", "c"}, " + ", "a + b + c"},
		{[]string{"", ""}, ",", ","},
		{[]string{"", "", "a"}, "-", "--a"},
		{[]string{"\xff", "\u00e9", "\xc3"}, "\xa9", "\xff\xa9\u00e9\xa9\xc3"},
		{[]string{"\xc3", "x"}, "\xa9", "\u00e9x"},
	}
	for _, c := range cases {
		if got := impl.Join(c.l, c.by); got != c.want {
			t.Errorf("Join(%q, %q) = %q, want %q", c.l, c.by, got, c.want)
		}
	}
}

func TestJoinLeavesItsArgument(t *testing.T) {
	store := []string{"a", "b", "c", "d"}
	impl.Join(store[:2], ",")
	if !slices.Equal(store, []string{"a", "b", "c", "d"}) {
		t.Errorf("Join changed its argument or what is behind it: %q", store)
	}
}

func TestPadZeros(t *testing.T) {
	cases := []struct {
		s    string
		n    int
		want string
	}{
		{"7", 3, "007"},
		{"", 0, ""},
		{"", 1, "0"},
		{"", 4, "0000"},
		{"7", 0, "7"},
		{"7", 1, "7"},
		{"7", 2, "07"},
		{"123", 2, "123"},
		{"123", 3, "123"},
		{"7", -1, "7"},
		{"", -1, ""},
		{"7", math.MinInt, "7"},
		{"7", math.MaxInt, "7"},
		{"7", 1 << 32, "7"},
		{"", 2001, ""},
		{"7", 2001, "7"},
		{"7", 2000, strings.Repeat("0", 1999) + "7"},
		{"7", 1999, strings.Repeat("0", 1998) + "7"},
		{"", 2000, strings.Repeat("0", 2000)},
		{"-5", 4, "00-5"},
		{"00", 3, "000"},
		// n counts bytes, not runes.
		{"\u00e9", 2, "\u00e9"},
		{"\u00e9", 3, "0\u00e9"},
		{"\xff\xfe", 2, "\xff\xfe"},
		{"\xff\xfe", 4, "00\xff\xfe"},
		{"\ufffd", 4, "0\ufffd"},
	}
	for _, c := range cases {
		if got := impl.PadZeros(c.s, c.n); got != c.want {
			t.Errorf("PadZeros(%q, %d) = %q, want %q", c.s, c.n, got, c.want)
		}
	}
}

func TestPadZerosAtEveryLength(t *testing.T) {
	for _, size := range []int{0, 1, 1999, 2000, 2001, 3000} {
		s := strings.Repeat("x", size)
		for n := -3; n <= 3003; n++ {
			want := s
			if size < n && n <= 2000 {
				want = strings.Repeat("0", n-size) + s
			}
			if got := impl.PadZeros(s, n); got != want {
				t.Errorf("PadZeros of %d bytes to %d has %d bytes, want %d", size, n, len(got), len(want))
			}
		}
	}
}
