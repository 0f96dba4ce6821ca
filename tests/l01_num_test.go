package tests

import (
	"math"
	"regexp"
	"slices"
	"strconv"
	"strings"
	"testing"

	"loop.example/g00584/impl"
)

const (
	numberLimit  = 999999
	integerLimit = 999999999999
)

// notIntegers are texts that are FormatInt of no integer at all.
var notIntegers = []string{
	"", "-", "+", "--1", "-+1", "+-1", "1-", "1-1", "-1-",
	"007", "00", "01", "-01", "-0", "-00", "+0", "+5", "+999999",
	" 1", "1 ", "1 2", "\t1", "1\n", "1\x00", "\x00", "\x00001",
	"a", "1a", "a1", "0x10", "0b1", "0o7", "1e3", "1.0", ".5", "5.", "1_000", "1,000", "NaN", "Inf",
	"/", ":", "1/", "1:", "\xff", "1\x80", "\xb2", "\u0661", "\uff11", "\u22121",
	"?",
}

// tooLong are texts of digits that no int can hold, or that only fit when they wrap around.
var tooLong = []string{
	"9223372036854775808", "-9223372036854775809",
	"18446744073709551616", "18446744073709551617", "-18446744073709551615",
	"99999999999999999999", "-99999999999999999999",
	"340282366920938463463374607431768211457",
	strings.Repeat("9", 1000), "-" + strings.Repeat("9", 1000),
	"1" + strings.Repeat("0", 100000), strings.Repeat("0", 100000) + "1",
}

func TestFormatInt(t *testing.T) {
	cases := []struct {
		n    int
		want string
	}{
		{0, "0"}, {1, "1"}, {9, "9"}, {10, "10"}, {100, "100"}, {1203, "1203"},
		{-1, "-1"}, {-5, "-5"}, {-10, "-10"}, {-70, "-70"},
		{numberLimit, "999999"}, {numberLimit + 1, "1000000"},
		{integerLimit, "999999999999"}, {-integerLimit, "-999999999999"},
		{integerLimit + 1, "1000000000000"}, {-integerLimit - 1, "-1000000000000"},
		{math.MaxInt, "9223372036854775807"}, {math.MinInt, "-9223372036854775808"},
		{math.MaxInt - 1, "9223372036854775806"}, {math.MinInt + 1, "-9223372036854775807"},
	}
	for _, c := range cases {
		if got := impl.FormatInt(c.n); got != c.want {
			t.Errorf("FormatInt(%s): %q", c.want, got)
		}
	}
}

func checkNumber(t *testing.T, s string, want int, wantOK bool) {
	t.Helper()
	if n, ok := impl.ParseNumber(s); n != want || ok != wantOK {
		t.Errorf("ParseNumber(%.40q) = %d, %v, want %d, %v", s, n, ok, want, wantOK)
	}
}

func checkInt(t *testing.T, s string, want int, wantOK bool) {
	t.Helper()
	if n, ok := impl.ParseInt(s); n != want || ok != wantOK {
		t.Errorf("ParseInt(%.40q) = %d, %v, want %d, %v", s, n, ok, want, wantOK)
	}
}

func TestParseNumberAccepts(t *testing.T) {
	for n := 0; n <= numberLimit; n++ {
		if got, ok := impl.ParseNumber(strconv.Itoa(n)); got != n || !ok {
			t.Fatalf("ParseNumber(%d) = %d, %v", n, got, ok)
		}
	}
}

func TestParseNumberRejectsWhatIsOutOfRange(t *testing.T) {
	for _, n := range []int{
		-1, -7, -numberLimit, numberLimit + 1, numberLimit + 2, 9999990, integerLimit,
		math.MaxInt32, math.MinInt32, 1 << 32, 1<<32 + 1, math.MaxInt, math.MinInt,
	} {
		checkNumber(t, strconv.Itoa(n), 0, false)
	}
}

func TestParseIntAccepts(t *testing.T) {
	for n := -2000; n <= 2000; n++ {
		checkInt(t, strconv.Itoa(n), n, true)
	}
	for power := 1; power <= 100000000000; power *= 10 {
		for _, n := range []int{power - 1, power, power + 1, 7 * power, 9 * power} {
			checkInt(t, strconv.Itoa(n), n, true)
			checkInt(t, strconv.Itoa(-n), -n, true)
		}
	}
	for _, n := range []int{
		numberLimit, numberLimit + 1, -numberLimit - 1, math.MaxInt32 + 1, math.MinInt32 - 1, 1 << 32,
		integerLimit, -integerLimit, integerLimit - 1, -integerLimit + 1,
	} {
		checkInt(t, strconv.Itoa(n), n, true)
	}
}

func TestParseIntRejectsWhatIsOutOfRange(t *testing.T) {
	for _, n := range []int{
		integerLimit + 1, -integerLimit - 1, integerLimit + 2, -integerLimit - 2,
		10 * integerLimit, math.MaxInt, math.MinInt, math.MinInt + 1,
	} {
		checkInt(t, strconv.Itoa(n), 0, false)
	}
}

func TestParsersRejectMalformedTexts(t *testing.T) {
	for _, s := range slices.Concat(notIntegers, tooLong) {
		checkNumber(t, s, 0, false)
		checkInt(t, s, 0, false)
	}
	for b := range 256 {
		if b >= '0' && b <= '9' {
			continue
		}
		for _, s := range []string{
			string([]byte{byte(b)}), string([]byte{byte(b), byte(b)}),
			string([]byte{'1', byte(b)}), string([]byte{'1', byte(b), '2'}),
		} {
			checkNumber(t, s, 0, false)
			checkInt(t, s, 0, false)
		}
		if b != '-' {
			checkNumber(t, string([]byte{byte(b), '1'}), 0, false)
			checkInt(t, string([]byte{byte(b), '1'}), 0, false)
		}
	}
}

// textsOver calls visit with every text of at most length bytes of the alphabet.
func textsOver(alphabet string, length int, visit func(string)) {
	texts := []string{""}
	for k := 0; k <= length; k++ {
		var longer []string
		for _, s := range texts {
			visit(s)
			for i := range len(alphabet) {
				longer = append(longer, s+alphabet[i:i+1])
			}
		}
		texts = longer
	}
}

func TestParsersOnAllShortTexts(t *testing.T) {
	number := regexp.MustCompile(`\A(0|[1-9][0-9]*)\z`)
	integer := regexp.MustCompile(`\A(0|-?[1-9][0-9]*)\z`)
	textsOver("0179-+ _a\xff", 5, func(s string) {
		n, _ := strconv.Atoi(s)
		if number.MatchString(s) {
			checkNumber(t, s, n, true)
		} else {
			checkNumber(t, s, 0, false)
		}
		if integer.MatchString(s) {
			checkInt(t, s, n, true)
		} else {
			checkInt(t, s, 0, false)
		}
	})
}

func TestParsingUndoesFormatting(t *testing.T) {
	step := 1
	for n := 0; n <= integerLimit; n += step {
		for _, m := range []int{n, -n} {
			s := impl.FormatInt(m)
			checkInt(t, s, m, true)
			if m >= 0 && m <= numberLimit {
				checkNumber(t, s, m, true)
			} else {
				checkNumber(t, s, 0, false)
			}
		}
		step += step/50 + 1
	}
}

func TestSplitByte(t *testing.T) {
	cases := []struct {
		s    string
		by   byte
		want []string
	}{
		{"a,b,c", ',', []string{"a", "b", "c"}},
		{"one two", ' ', []string{"one", "two"}},
		{"abc", ',', []string{"abc"}},
		{"abc", 'b', []string{"a", "c"}},
		{"", ',', []string{""}},
		{"", 0, []string{""}},
		{"", 0xff, []string{""}},
		{",", ',', []string{"", ""}},
		{",a", ',', []string{"", "a"}},
		{"a,", ',', []string{"a", ""}},
		{",a,", ',', []string{"", "a", ""}},
		{"a,,b", ',', []string{"a", "", "b"}},
		{",,", ',', []string{"", "", ""}},
		{",,a,,", ',', []string{"", "", "a", "", ""}},
		{"a\nb\n", '\n', []string{"a", "b", ""}},
		{"a\x00b", 0, []string{"a", "b"}},
		{"a\xffb", 0xff, []string{"a", "b"}},
		{"\xff\xff", 0xff, []string{"", "", ""}},
		{"a\x80b\x81", 0x80, []string{"a", "b\x81"}},
		{"\u00e9", 0xc3, []string{"", "\xa9"}},
		{"\u00e9", 0xa9, []string{"\xc3", ""}},
		{"\u00e9", 0xe9, []string{"\u00e9"}},
		{"\u00ff", 0xff, []string{"\u00ff"}},
		{"a\xe9b", 0xe9, []string{"a", "b"}},
		{"\ufffd", 0xff, []string{"\ufffd"}},
		{"a\xfe,\xff", ',', []string{"a\xfe", "\xff"}},
	}
	for _, c := range cases {
		if got := impl.SplitByte(c.s, c.by); !slices.Equal(got, c.want) {
			t.Errorf("SplitByte(%q, %q) = %q, want %q", c.s, c.by, got, c.want)
		}
	}
}

func TestSplitByteAtEveryByte(t *testing.T) {
	for b := range 256 {
		by := string([]byte{byte(b)})
		other := string([]byte{byte(b) ^ 1})
		s := other + by + by + other + other + by
		want := []string{other, "", other + other, ""}
		if got := impl.SplitByte(s, byte(b)); !slices.Equal(got, want) {
			t.Errorf("SplitByte(%q, %q) = %q", s, by, got)
		}
		if got := impl.SplitByte(other, byte(b)); !slices.Equal(got, []string{other}) {
			t.Errorf("SplitByte(%q, %q) = %q", other, by, got)
		}
	}
}

func TestJoin(t *testing.T) {
	cases := []struct {
		list []string
		by   string
		want string
	}{
		{[]string{"a", "b"}, "-", "a-b"},
		{[]string{"a", "b", "c"}, ", ", "a, b, c"},
		{nil, ",", ""},
		{[]string{}, ",", ""},
		{nil, "", ""},
		{[]string{"a"}, ",", "a"},
		{[]string{""}, ",", ""},
		{[]string{"a,b"}, ",", "a,b"},
		{[]string{"a", "b", "c"}, "", "abc"},
		{[]string{"a"}, "", "a"},
		{[]string{"", ""}, ",", ","},
		{[]string{"", "a", ""}, ",", ",a,"},
		{[]string{"", "", ""}, "", ""},
		{[]string{"a,", ",b"}, ",", "a,,,b"},
		{[]string{"\xff", "\x00"}, "\xfe", "\xff\xfe\x00"},
		{[]string{"x", "y"}, "\u00e9", "x\u00e9y"},
	}
	for _, c := range cases {
		if got := impl.Join(c.list, c.by); got != c.want {
			t.Errorf("Join(%q, %q) = %q, want %q", c.list, c.by, got, c.want)
		}
	}
}

func TestJoinUndoesSplitting(t *testing.T) {
	for _, by := range []byte{',', 0, '\n', 0x80, 0xff, 0xc3} {
		separator := string([]byte{by})
		textsOver(",a\x00\n\x80\xff\u00e9", 4, func(s string) {
			parts := impl.SplitByte(s, by)
			if len(parts) != strings.Count(s, separator)+1 {
				t.Errorf("SplitByte(%q, %q) has %d elements", s, by, len(parts))
			}
			for _, part := range parts {
				if strings.Contains(part, separator) {
					t.Errorf("SplitByte(%q, %q) has the element %q", s, by, part)
				}
			}
			if got := impl.Join(parts, separator); got != s {
				t.Errorf("SplitByte(%q, %q) joined is %q", s, by, got)
			}
		})
	}
}

func TestSplittingUndoesJoining(t *testing.T) {
	elements := []string{"", "a", "bc", "\x80", "\u00e9"}
	for _, by := range []byte{',', 0, 0xff} {
		lists := [][]string{nil}
		for range 4 {
			var longer [][]string
			for _, list := range lists {
				for _, element := range elements {
					longer = append(longer, append(slices.Clone(list), element))
				}
			}
			lists = longer
			for _, list := range lists {
				joined := impl.Join(list, string([]byte{by}))
				if got := impl.SplitByte(joined, by); !slices.Equal(got, list) {
					t.Errorf("SplitByte(%q, %q) = %q, want %q", joined, by, got, list)
				}
			}
		}
	}
}

// TestNumbersLeaveArgumentsAlone covers promise 34 for chapter 1.
func TestNumbersLeaveArgumentsAlone(t *testing.T) {
	backing := []string{"a", "b", "c", "d"}
	if got := impl.Join(backing[:2], ","); got != "a,b" {
		t.Errorf("Join = %q", got)
	}
	if !slices.Equal(backing, []string{"a", "b", "c", "d"}) {
		t.Errorf("Join changed its argument to %q", backing)
	}
	first := impl.SplitByte("a,b,c", ',')
	for i := range first {
		first[i] = "changed"
	}
	if got := impl.SplitByte("a,b,c", ','); !slices.Equal(got, []string{"a", "b", "c"}) {
		t.Errorf("SplitByte after a change of an earlier result = %q", got)
	}
}
