package tests

import (
	"regexp"
	"slices"
	"strconv"
	"strings"
	"testing"

	"loop.example/g00584/impl"
)

const nameLimit = 6

func checkNames(t *testing.T, s string, wantName bool, wantConName bool) {
	t.Helper()
	if got := impl.IsName(s); got != wantName {
		t.Errorf("IsName(%.40q) = %v", s, got)
	}
	if got := impl.IsConName(s); got != wantConName {
		t.Errorf("IsConName(%.40q) = %v", s, got)
	}
}

func TestMaxName(t *testing.T) {
	if impl.MaxName != nameLimit {
		t.Errorf("MaxName = %d", impl.MaxName)
	}
}

func TestNamesThatAreAccepted(t *testing.T) {
	for _, s := range []string{"a", "z", "m", "x1", "x0", "x9", "abc", "a1b2c3", "zzzzzz", "a00000", "az09az", "append"} {
		checkNames(t, s, true, false)
	}
	for _, s := range []string{"A", "Z", "M", "X1", "X0", "X9", "Cons", "Nil", "A1b2c3", "Zzzzzz", "A00000", "Sz09az"} {
		checkNames(t, s, false, true)
	}
}

func TestNamesThatAreNone(t *testing.T) {
	for _, s := range []string{
		"", "1", "0", "9a", "1x", "7A", "_", "a_", "_a", "a_b", "a b", " a", "a ", "a\n", "a\x00", "\x00",
		"aB", "abC", "aBc", "AB", "ABc", "AbC", "AAAAAA", "aaaaaA", "AaaaaA",
		"a-", "-a", "a.b", "a(b)", "A()", "a,b", "!", "?", "a'", "a$",
		"\u00e4", "a\u00e4", "\u00c4", "A\u00e4", "\u00e4a", "\u0661", "a\u0661", "a\uff11", "\uff41", "\uff21",
		"\u03b1", "a\u03b1", "a\u0301", "\U0001d41a", "a\U0001d41a",
		"\x80", "\xff", "a\x80", "a\xff", "A\xff", "a\xc3", "\xc3a", "a\xffb", "A\x80b", "\xed\xa0\x80", "a\xe2\x82", "\ufffd", "a\ufffd",
	} {
		checkNames(t, s, false, false)
	}
}

func TestLengthsOfNames(t *testing.T) {
	for _, ending := range []string{"a", "z", "0", "9"} {
		for length := 1; length <= 3*nameLimit; length++ {
			rest := strings.Repeat(ending, length-1)
			checkNames(t, "b"+rest, length <= nameLimit, false)
			checkNames(t, "B"+rest, false, length <= nameLimit)
		}
	}
	for _, length := range []int{254, 255, 256, 257, 1 << 16, 1<<16 + 1, 1 << 20} {
		checkNames(t, strings.Repeat("a", length), false, false)
		checkNames(t, "A"+strings.Repeat("a", length), false, false)
	}
	// No letter of these is one byte, so that they are longer than they look.
	checkNames(t, strings.Repeat("\u00e4", nameLimit), false, false)
	checkNames(t, "a"+strings.Repeat("\u00e4", nameLimit/2), false, false)
}

func TestNamesAtEveryByteAndPlace(t *testing.T) {
	for b := range 256 {
		small := b >= 'a' && b <= 'z'
		large := b >= 'A' && b <= 'Z'
		inner := small || b >= '0' && b <= '9'
		for length := 1; length <= nameLimit+1; length++ {
			short := length <= nameLimit
			for at := range length {
				name := []byte(strings.Repeat("k", length))
				con := []byte("K" + strings.Repeat("k", length-1))
				name[at], con[at] = byte(b), byte(b)
				if at == 0 {
					checkNames(t, string(name), short && small, short && large)
				} else {
					checkNames(t, string(name), short && inner, false)
					checkNames(t, string(con), false, short && inner)
				}
			}
		}
	}
}

func TestNamesOnAllShortTexts(t *testing.T) {
	name := regexp.MustCompile(`\A[a-z][a-z0-9]{0,5}\z`)
	con := regexp.MustCompile(`\A[A-Z][a-z0-9]{0,5}\z`)
	textsOver("azAZ09_\xc3\xa4", 5, func(s string) {
		checkNames(t, s, name.MatchString(s), con.MatchString(s))
	})
	textsOver("aA1", nameLimit+1, func(s string) {
		checkNames(t, s, name.MatchString(s), con.MatchString(s))
	})
}

func numbered(prefix string, numbers ...int) []string {
	var list []string
	for _, n := range numbers {
		list = append(list, prefix+strconv.Itoa(n))
	}
	return list
}

func TestFreshName(t *testing.T) {
	cases := []struct {
		list   []string
		prefix string
		want   string
	}{
		{nil, "f", "f1"},
		{[]string{}, "v", "v1"},
		{nil, "", "1"},
		{[]string{""}, "", "1"},
		{numbered("v", 1), "v", "v2"},
		{numbered("v", 1, 2, 3), "v", "v4"},
		{numbered("v", 3, 2, 1), "v", "v4"},
		{numbered("v", 1, 3), "v", "v2"},
		{numbered("v", 2, 3, 4), "v", "v1"},
		{numbered("v", 1, 2, 4, 5, 7), "v", "v3"},
		{numbered("v", 4, 2, 1, 2, 1), "v", "v3"},
		{numbered("v", 1, 1, 1), "v", "v2"},
		{numbered("v", 1, 1, 2, 2, 3, 3), "v", "v4"},
		{numbered("v", 0), "v", "v1"},
		{numbered("v", 0, 1), "v", "v2"},
		{numbered("v", -1, -2), "v", "v1"},
		{numbered("v", 10, 11, 12), "v", "v1"},
		{numbered("v", 1, 2, 3, 4, 5, 6, 7, 8, 9), "v", "v10"},
		{numbered("v", 1, 2, 3, 4, 5, 6, 7, 8, 9, 10), "v", "v11"},
		{[]string{"v", "v01", "v001", "v+1", "v 1", "v1 ", "v1x", "vv1", "V1", "x1", "1", ""}, "v", "v1"},
		{[]string{"v1", "v02", "v2a", "v2\x00", "v\xff"}, "v", "v2"},
		{[]string{"w1", "w2"}, "v", "v1"},
		{[]string{"1", "2", "4"}, "", "3"},
		{[]string{"01", "0", "-1"}, "", "1"},
		{[]string{"v1", "v12"}, "v1", "v11"},
		{[]string{"v11", "v12"}, "v1", "v13"},
		{[]string{"v11", "v12"}, "v", "v1"},
		{[]string{"\xff1", "\xff2"}, "\xff", "\xff3"},
		{[]string{"\ufffd1"}, "\xff", "\xff1"},
		{[]string{"\u00e41"}, "\u00e4", "\u00e42"},
		{[]string{"long prefix 1"}, "long prefix ", "long prefix 2"},
		{[]string{"A1"}, "A", "A2"},
		{[]string{"\x001"}, "\x00", "\x002"},
	}
	for _, c := range cases {
		if got := impl.FreshName(c.list, c.prefix); got != c.want {
			t.Errorf("FreshName(%q, %q) = %q, want %q", c.list, c.prefix, got, c.want)
		}
	}
}

// TestFreshNameOnAllShortLists covers promise 2: what is returned is not in the
// list, and every lower number is.
func TestFreshNameOnAllShortLists(t *testing.T) {
	elements := []string{"v1", "v2", "v3", "v4", "v01", "v", "1", "w1"}
	for _, list := range listsOver(elements, 4) {
		for _, prefix := range []string{"v", "w", "", "v0"} {
			got := impl.FreshName(list, prefix)
			if slices.Contains(list, got) {
				t.Fatalf("FreshName(%q, %q) = %q is in the list", list, prefix, got)
			}
			n, err := strconv.Atoi(strings.TrimPrefix(got, prefix))
			if err != nil || n < 1 || got != prefix+strconv.Itoa(n) {
				t.Fatalf("FreshName(%q, %q) = %q", list, prefix, got)
			}
			for less := 1; less < n; less++ {
				if !slices.Contains(list, prefix+strconv.Itoa(less)) {
					t.Fatalf("FreshName(%q, %q) = %q is not the least", list, prefix, got)
				}
			}
		}
	}
}

func TestFreshNameOfLongLists(t *testing.T) {
	var list []string
	for n := 3000; n >= 1; n-- {
		list = append(list, numbered("v", n, n)...)
	}
	if got := impl.FreshName(list, "v"); got != "v3001" {
		t.Errorf("FreshName of v1 to v3000 = %q", got)
	}
	for _, missing := range []int{1, 9, 10, 99, 100, 999, 1000, 2999, 3000} {
		name := "v" + strconv.Itoa(missing)
		without := slices.DeleteFunc(slices.Clone(list), func(s string) bool { return s == name })
		if got := impl.FreshName(without, "v"); got != name {
			t.Errorf("FreshName without %s = %q", name, got)
		}
	}
}

func TestFreshNamesOneAfterAnother(t *testing.T) {
	var list []string
	for n := 1; n <= 200; n++ {
		fresh := impl.FreshName(list, "g")
		if fresh != "g"+strconv.Itoa(n) {
			t.Fatalf("fresh name %d is %q", n, fresh)
		}
		list = append(list, fresh)
	}
}

// listsOver returns all lists of at most length elements.
func listsOver(elements []string, length int) [][]string {
	all := [][]string{nil}
	last := all
	for range length {
		var longer [][]string
		for _, list := range last {
			for _, element := range elements {
				longer = append(longer, append(slices.Clone(list), element))
			}
		}
		all = append(all, longer...)
		last = longer
	}
	return all
}

func TestIndexOf(t *testing.T) {
	cases := []struct {
		list []string
		s    string
		want int
	}{
		{nil, "b", -1},
		{nil, "", -1},
		{[]string{}, "a", -1},
		{[]string{"a"}, "a", 0},
		{[]string{"a"}, "b", -1},
		{[]string{"a"}, "", -1},
		{[]string{""}, "", 0},
		{[]string{"a", "b"}, "b", 1},
		{[]string{"a", "b", "c"}, "c", 2},
		{[]string{"a", "b", "a", "b"}, "a", 0},
		{[]string{"a", "b", "a", "b"}, "b", 1},
		{[]string{"c", "b", "a", "a", "a"}, "a", 2},
		{[]string{"a", "", "b", ""}, "", 1},
		{[]string{"ab", "a", "abc"}, "a", 1},
		{[]string{"ab", "abc"}, "a", -1},
		{[]string{"a"}, "ab", -1},
		{[]string{"A"}, "a", -1},
		{[]string{"a\x00", "a"}, "a", 1},
		{[]string{"\ufffd", "\xfe", "\xff"}, "\xff", 2},
		{[]string{"\u00e9", "e\u0301"}, "e\u0301", 1},
	}
	for _, c := range cases {
		if got := impl.IndexOf(c.list, c.s); got != c.want {
			t.Errorf("IndexOf(%q, %q) = %d, want %d", c.list, c.s, got, c.want)
		}
	}
}

func TestAllDistinct(t *testing.T) {
	cases := []struct {
		list []string
		want bool
	}{
		{nil, true},
		{[]string{}, true},
		{[]string{"a"}, true},
		{[]string{""}, true},
		{[]string{"a", "b"}, true},
		{[]string{"a", "a"}, false},
		{[]string{"", ""}, false},
		{[]string{"", "a", "b"}, true},
		{[]string{"", "a", ""}, false},
		{[]string{"a", "b", "c", "d"}, true},
		{[]string{"a", "b", "c", "a"}, false},
		{[]string{"a", "a", "b", "c"}, false},
		{[]string{"a", "b", "b", "c"}, false},
		{[]string{"a", "b", "c", "c"}, false},
		{[]string{"a", "b", "c", "d", "b", "e"}, false},
		{[]string{"a", "a", "a"}, false},
		{[]string{"a", "A", "a ", " a", "a\x00", "aa"}, true},
		{[]string{"\xff", "\xfe", "\ufffd"}, true},
		{[]string{"\xff", "\xfe", "\xff"}, false},
		{[]string{"\u00e9", "e\u0301"}, true},
	}
	for _, c := range cases {
		if got := impl.AllDistinct(c.list); got != c.want {
			t.Errorf("AllDistinct(%q) = %v", c.list, got)
		}
	}
}

func TestUniteNames(t *testing.T) {
	cases := []struct {
		a, b, want []string
	}{
		{nil, nil, nil},
		{[]string{}, []string{}, nil},
		{[]string{"a"}, nil, []string{"a"}},
		{nil, []string{"a"}, []string{"a"}},
		{[]string{""}, nil, []string{""}},
		{nil, []string{""}, []string{""}},
		{[]string{""}, []string{"", "a"}, []string{"", "a"}},
		{[]string{"a", "b"}, []string{"c", "d"}, []string{"a", "b", "c", "d"}},
		{[]string{"d", "c"}, []string{"b", "a"}, []string{"d", "c", "b", "a"}},
		{[]string{"a", "b"}, []string{"b", "a"}, []string{"a", "b"}},
		{[]string{"a", "b", "a"}, []string{"b", "c"}, []string{"a", "b", "c"}},
		{[]string{"b", "a", "b", "a"}, nil, []string{"b", "a"}},
		{nil, []string{"b", "a", "b", "a"}, []string{"b", "a"}},
		{[]string{"a", "a"}, []string{"a", "a"}, []string{"a"}},
		{[]string{"x"}, []string{"y", "y", "x", "z", "y"}, []string{"x", "y", "z"}},
		{[]string{"x", "y"}, []string{"x", "y"}, []string{"x", "y"}},
		{[]string{"a", "A"}, []string{"aa", "a ", "a\x00"}, []string{"a", "A", "aa", "a ", "a\x00"}},
		{[]string{"\xff"}, []string{"\ufffd", "\xfe", "\xff"}, []string{"\xff", "\ufffd", "\xfe"}},
	}
	for _, c := range cases {
		if got := impl.UniteNames(c.a, c.b); !slices.Equal(got, c.want) {
			t.Errorf("UniteNames(%q, %q) = %q, want %q", c.a, c.b, got, c.want)
		}
	}
}

// TestListsOfNamesOnAllShortLists compares the functions on lists with what
// their definitions say, element by element.
func TestListsOfNamesOnAllShortLists(t *testing.T) {
	lists := listsOver([]string{"a", "b", "", "\xff"}, 4)
	for _, list := range lists {
		first := map[string]int{}
		for i := len(list) - 1; i >= 0; i-- {
			first[list[i]] = i
		}
		for _, s := range []string{"a", "b", "", "\xff", "c"} {
			want, occurs := first[s]
			if !occurs {
				want = -1
			}
			if got := impl.IndexOf(list, s); got != want {
				t.Fatalf("IndexOf(%q, %q) = %d, want %d", list, s, got, want)
			}
		}
		if got := impl.AllDistinct(list); got != (len(first) == len(list)) {
			t.Fatalf("AllDistinct(%q) = %v", list, got)
		}
	}
	for _, a := range lists {
		for _, b := range lists {
			var want []string
			for _, s := range slices.Concat(a, b) {
				if !slices.Contains(want, s) {
					want = append(want, s)
				}
			}
			if got := impl.UniteNames(a, b); !slices.Equal(got, want) {
				t.Fatalf("UniteNames(%q, %q) = %q, want %q", a, b, got, want)
			}
		}
	}
}

// TestNamesLeaveArgumentsAlone covers promise 34 for chapter 2.
func TestNamesLeaveArgumentsAlone(t *testing.T) {
	original := []string{"v1", "b", "v1", "v2", "c", "b", "rest", "more"}
	backing := slices.Clone(original)
	a, b := backing[:3], backing[3:6]
	impl.FreshName(a, "v")
	impl.IndexOf(a, "v2")
	impl.AllDistinct(a)
	united := impl.UniteNames(a, b)
	if !slices.Equal(backing, original) {
		t.Fatalf("the arguments are now %q", backing)
	}
	if !slices.Equal(united, []string{"v1", "b", "v2", "c"}) {
		t.Fatalf("UniteNames = %q", united)
	}
	united = append(united[:0], "changed", "changed", "changed", "changed")
	if !slices.Equal(backing, original) {
		t.Errorf("a change of the result %q changed the arguments to %q", united, backing)
	}
	for _, empty := range [][]string{nil, backing[3:3]} {
		for _, result := range [][]string{impl.UniteNames(backing[:2], empty), impl.UniteNames(empty, backing[:2])} {
			for i := range result[:cap(result)] {
				result[:cap(result)][i] = "changed"
			}
			if !slices.Equal(backing, original) {
				t.Fatalf("UniteNames shares memory with its argument: %q", backing)
			}
		}
	}
	if got := impl.UniteNames(a, b); !slices.Equal(got, []string{"v1", "b", "v2", "c"}) {
		t.Errorf("UniteNames after a change of an earlier result = %q", got)
	}
}
