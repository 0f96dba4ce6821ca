package tests

import (
	"slices"
	"strings"
	"testing"

	"loop.example/g00584/impl"
)

// checkText is promise 4 for one expression: text is its representation.
func checkText(t *testing.T, e impl.Expr, text string) {
	t.Helper()
	if got := impl.FormatExpr(e); got != text {
		t.Errorf("FormatExpr of %.200s = %.200q, want %.200q", textOf(e), got, text)
	}
	got, ok := impl.ParseExpr(text)
	if !ok || !impl.EqualExpr(got, e) {
		t.Errorf("ParseExpr(%.200q) = %.200s, %v, want %.200s", text, textOf(got), ok, textOf(e))
	}
}

func checkWithoutText(t *testing.T, e impl.Expr) {
	t.Helper()
	if got := impl.FormatExpr(e); got != "" {
		t.Errorf("FormatExpr of an expression that is not valid = %.200q", got)
	}
}

func checkNoExpr(t *testing.T, s string) {
	t.Helper()
	got, ok := impl.ParseExpr(s)
	if ok || !impl.EqualExpr(got, impl.Expr{}) {
		t.Errorf("ParseExpr(%.200q) = %.200s, %v", s, textOf(got), ok)
	}
}

// writtenAs is how an expression looks, within the limits or not.
func writtenAs(e impl.Expr) string {
	if e.Kind == impl.ExStuck {
		return "!"
	}
	if len(e.Args) == 0 && e.Kind != impl.ExCall {
		return e.Name
	}
	var args []string
	for _, part := range e.Args {
		args = append(args, writtenAs(part))
	}
	return e.Name + "(" + strings.Join(args, ",") + ")"
}

// checkWritten checks an expression whose names are right, so that only the
// limits decide whether it has a representation.
func checkWritten(t *testing.T, e impl.Expr, fits bool) {
	t.Helper()
	if fits {
		checkText(t, e, writtenAs(e))
		return
	}
	checkWithoutText(t, e)
	checkNoExpr(t, writtenAs(e))
}

func TestTextsOfOrdinaryExpressions(t *testing.T) {
	x, y, n := variable("x"), variable("y"), con("N")
	checkText(t, con("S", n), "S(N)")
	checkText(t, con("C", x, n), "C(x,N)")
	checkText(t, con("S", con("S", con("Z"))), "S(S(Z))")
	checkText(t, con("Cons", variable("x1"), con("Nil2")), "Cons(x1,Nil2)")
	checkText(t, call("f", x), "f(x)")
	checkText(t, call("app", x, y), "app(x,y)")
	checkText(t, call("app", y, x), "app(y,x)")
	checkText(t, call("app", con("C", x, n), call("f")), "app(C(x,N),f())")
	checkText(t, call("app", call("app", x, y), variable("z")), "app(app(x,y),z)")
	checkText(t, call("app", x, call("app", y, variable("z"))), "app(x,app(y,z))")
	checkText(t, con("C", con("C"), con("C", con("C"))), "C(C,C(C))")
	checkText(t, call("f", call("f"), call("f", call("f"))), "f(f(),f(f()))")
	checkText(t, call("g", n, x, stuck(), call("f"), con("D", n, n)), "g(N,x,!,f(),D(N,N))")
	checkText(t, con("T", con("T", con("T", n, x), y), call("f", n)), "T(T(T(N,x),y),f(N))")
}

func TestTextsOfSingleNodes(t *testing.T) {
	checkText(t, variable("x"), "x")
	checkText(t, call("x"), "x()")
	checkText(t, con("X"), "X")
	checkText(t, stuck(), "!")
	checkText(t, call("f", variable("f"), call("f"), con("F")), "f(f,f(),F)")
	checkText(t, con("F", call("f"), variable("f"), con("F")), "F(f(),f,F)")
	checkText(t, call("g", stuck(), variable("x")), "g(!,x)")
	checkText(t, call("g", variable("x"), stuck()), "g(x,!)")
	checkText(t, con("C", stuck(), stuck(), stuck()), "C(!,!,!)")
	checkText(t, con("C", con("S", stuck())), "C(S(!))")
	for _, e := range []impl.Expr{variable("x"), con("X"), call("x"), stuck()} {
		text := writtenAs(e)
		e.Args = []impl.Expr{}
		checkText(t, e, text)
	}
}

func TestParenthesesWithoutArguments(t *testing.T) {
	checkText(t, call("f"), "f()")
	checkText(t, con("C", call("f"), call("a1b2c3")), "C(f(),a1b2c3())")
	for _, s := range []string{
		"S()", "Nil()", "S(N())", "C(N(),x)", "C(x,N())", "f(N())", "f(N(),x)", "f(x,N())", "S(S(S()))",
		"!()", "f(!())", "C(!(),x)", "C(x,!())", "()", "f(())", "f((),x)", "f(x,())", "S(())",
		"f()()", "f(x)()", "S()()", "S(x)()", "C(f()(),x)", "C(x,f()())", "f(()())", "()()", "(())", "()f", "f()x", "x()x",
		"x(())", "f((x))", "(x)", "(f())", "(N)", "(!)", "!(x)", "!(N)", "!(!)", "C(!(x))",
	} {
		checkNoExpr(t, s)
	}
}

func TestTextsAtTheSizeLimit(t *testing.T) {
	for size := 1; size <= 3*sizeLimit; size++ {
		checkWritten(t, bushOf(size), size <= sizeLimit)
	}
	for _, leaf := range []impl.Expr{variable("x"), con("N"), call("f"), stuck()} {
		checkWritten(t, con("C", bushOf(sizeLimit-2), leaf), true)
		checkWritten(t, con("C", leaf, bushOf(sizeLimit-2)), true)
		checkWritten(t, con("C", bushOf(sizeLimit-2), leaf, leaf), false)
		checkWritten(t, con("C", leaf, bushOf(sizeLimit-2), leaf), false)
		checkWritten(t, call("f", leaf, leaf, bushOf(sizeLimit-2)), false)
	}
	// Both limits are reached at once, and one of them is exceeded.
	checkWritten(t, con("C", tower(depthLimit-1, con("N")), bushOf(sizeLimit-depthLimit)), true)
	checkWritten(t, con("C", bushOf(sizeLimit-depthLimit), tower(depthLimit-1, call("f"))), true)
	checkWritten(t, con("C", tower(depthLimit-1, con("N")), bushOf(sizeLimit-depthLimit+1)), false)
	checkWritten(t, con("C", bushOf(sizeLimit-depthLimit+1), tower(depthLimit-1, call("f"))), false)
}

// TestLongestText has as many nodes and as long names as there can be.
func TestLongestText(t *testing.T) {
	e := bushOf(sizeLimit)
	for at, node := range nodesIn(&e) {
		node.Name = "Constr"
		if at%2 == 0 {
			node.Kind, node.Name = impl.ExCall, "functi"
		}
	}
	checkWritten(t, e, true)
	nodesIn(&e)[sizeLimit-1].Name += "o"
	checkWritten(t, e, false)
}

func TestTextsAtTheDepthLimit(t *testing.T) {
	for depth := 1; depth <= sizeLimit+depthLimit; depth++ {
		fits := depth <= depthLimit
		for _, leaf := range []impl.Expr{variable("x"), con("N"), call("f"), stuck()} {
			checkWritten(t, tower(depth, leaf), fits)
		}
		checkWritten(t, con("C", con("N"), tower(depth, con("N"))), depth < depthLimit)
		checkWritten(t, call("f", tower(depth, con("N")), variable("x")), depth < depthLimit)
	}
}

func TestTextsAtTheArgsLimit(t *testing.T) {
	for args := 0; args <= 3*argsLimit; args++ {
		fits := args <= argsLimit
		for _, leaf := range []impl.Expr{variable("x"), con("N"), call("f"), stuck()} {
			c, f := con("C", copies(args, leaf)...), call("f", copies(args, leaf)...)
			checkWritten(t, c, fits)
			checkWritten(t, f, fits)
			checkWritten(t, con("C", con("N"), f), fits)
			checkWritten(t, call("f", c, con("N")), fits)
		}
	}
}

func TestNamesInTexts(t *testing.T) {
	for length := 1; length <= 3*nameLimit; length++ {
		fits := length <= nameLimit
		for _, ending := range []string{"a", "z", "0", "9"} {
			rest := strings.Repeat(ending, length-1)
			for _, e := range []impl.Expr{
				variable("b" + rest), con("B" + rest), call("b" + rest),
				con("B"+rest, con("N")), call("b"+rest, con("N")),
			} {
				checkWritten(t, e, fits)
				checkWritten(t, con("C", con("N"), e), fits)
				checkWritten(t, call("f", e, con("N")), fits)
			}
		}
	}
}

func TestFormatExprOfWrongNames(t *testing.T) {
	names := []string{
		"", "a", "A", "aaaaaaa", "Aaaaaaa", "1", "9a", "aB", "AB", "a_", "a b", "a(", "a,b", "a)", "f()", "S(N)", "!", "x!",
		strings.Repeat("a", 1000), strings.Repeat("A", 1000), "\u00e4", "\u00c4a", "a\xff", "\ufffd",
	}
	for b := range 256 {
		names = append(names, string([]byte{byte(b)}))
	}
	for _, name := range names {
		isName, isCon := impl.IsName(name), impl.IsConName(name)
		checkFormat := func(e impl.Expr, valid bool) {
			t.Helper()
			for _, whole := range []impl.Expr{e, con("C", e), call("f", con("N"), e), con("C", call("f", e), variable("x"))} {
				if valid {
					checkText(t, whole, writtenAs(whole))
				} else {
					checkWithoutText(t, whole)
				}
			}
		}
		checkFormat(variable(name), isName)
		checkFormat(call(name), isName)
		checkFormat(call(name, variable("x")), isName)
		checkFormat(con(name), isCon)
		checkFormat(con(name, variable("x")), isCon)
		checkFormat(impl.Expr{Kind: impl.ExStuck, Name: name}, name == "")
	}
}

func TestFormatExprOfFormsThatAreNone(t *testing.T) {
	x, n := variable("x"), con("N")
	none := []impl.Expr{
		{},
		{Kind: impl.ExVar, Name: "x", Args: []impl.Expr{n}},
		{Kind: impl.ExVar, Name: "x", Args: []impl.Expr{x, x}},
		{Kind: impl.ExStuck, Name: "x"},
		{Kind: impl.ExStuck, Name: "!"},
		{Kind: impl.ExStuck, Args: []impl.Expr{n}},
		con("n"), con(""), call("F"), call(""), variable("X"), variable(""),
	}
	for _, kind := range []int{0, -1, 5, 6, 256, 257, 258, 1 << 32, 1<<32 + 2, -1 << 63, 1<<63 - 1} {
		none = append(none, impl.Expr{Kind: kind, Name: "x"}, impl.Expr{Kind: kind, Name: "N", Args: []impl.Expr{x}})
	}
	whole := con("C", call("f", x, n), con("D", con("S", n), call("g")), stuck())
	checkText(t, whole, "C(f(x,N),D(S(N),g()),!)")
	for _, part := range none {
		for at := range impl.SizeOf(whole) {
			e := cloneExpr(whole)
			*nodesIn(&e)[at] = cloneExpr(part)
			checkWithoutText(t, e)
		}
	}
}

func TestFormatExprOfEndlessExpressions(t *testing.T) {
	checkWithoutText(t, tower(1000000, con("N")))
	checkWithoutText(t, tower(1000000, call("f")))
	checkWithoutText(t, con("C", copies(200000, con("N"))...))
	e := con("N")
	for range 200 {
		e = con("C", e, e)
	}
	checkWithoutText(t, e)
	args := []impl.Expr{con("N"), con("N")}
	args[0].Args = args
	checkWithoutText(t, con("C", args...))
	shared := con("S", con("N"))
	checkText(t, con("C", shared, shared), "C(S(N),S(N))")
}

func TestTextsThatAreNone(t *testing.T) {
	for _, s := range []string{
		"", "(", ")", ",", "()", ")(", "(,)", "((", "))", ",,", "XY", "xY", "1", "9a", "?", "_", "-", "!!", "!x", "x!", "!N", "N!",
		",x", "x,", "x,y", ",x,", "N,M", "f(),g()", "!,!", "f(,)", "f(,x)", "f(x,)", "f(,x,y)", "f(x,y,)", "f(x,,y)", "f(,,)", "f(x,,,y)",
		"S(,)", "S(,x)", "S(x,)", "C(x,,y)", "f(g(,x))", "f(g(x,))", "f(g(x,),y)", "f(g(,x),y)", "f(y,g(x,))", "f(g(),)", "f(,g())", "f(!,)", "f(,!)",
		"f(", "S(", "app(", "x(", "!(", "f(x", "f(x,", "f(x,y", "S(S(Z)", "f(g()", "f(g(", "f(()", "C(f(x),g(y)", "f(x(", "f(!(",
		"f)", "S)", "x)", "!)", "f())", "f(x))", "S(S(Z)))", "f(x)),y", "f(x),y)", "f(g)))", "f(x)y)", "x)(", "f)(", "f(x)(y)", "S(N)(N)",
		"f(x)g(y)", "f()g()", "f(x)y", "S(N)N", "S(N)!", "f(x)!", "!f(x)", "!()", "f(g()h())", "f(g(x)y)", "f(x(y)z)", "f(x(,y))", "f(x)1", "f(x).",
		"(f)(x)", "(f)x", "(x,y)", "f((x,y))", "f(x,(y))", "f((x),y)", "f[x]", "f{x}", "f(x;y)", "f(x|y)", "f(x=y)", "f(x)=y", "f(x) = y", "f(x\x00y)",
	} {
		checkNoExpr(t, s)
	}
}

var rightTexts = []string{
	"x", "N", "!", "f()", "S(N)", "f(x)", "app(x,y)", "app(C(x,N),f())", "S(S(Z))", "g(!,x)",
	"f(f(),f(f()))", "C(!,S(!))", "abc123(Abc123,xyz789)", "g(N,x,!,f(),D(N,N))",
}

func TestSpacesInTexts(t *testing.T) {
	for _, s := range rightTexts {
		if _, ok := impl.ParseExpr(s); !ok {
			t.Errorf("%q is not accepted", s)
		}
		for _, space := range []string{
			" ", "  ", "\t", "\n", "\r", "\r\n", "\v", "\f", "\x00", "\x1f", "\x7f",
			"\u0085", "\u00a0", "\u2003", "\u2028", "\u200b", "\u3000", "\ufeff",
		} {
			for at := range len(s) + 1 {
				checkNoExpr(t, s[:at]+space+s[at:])
			}
			checkNoExpr(t, space)
			checkNoExpr(t, space+s+space)
			checkNoExpr(t, s+space+s)
		}
	}
}

func TestTextsThatAreNotASCII(t *testing.T) {
	others := []string{
		"\u00e4", "\u00c4", "\u0430", "\u0391", "\uff41", "\uff21", "\uff11", "\uff08", "\uff09", "\uff0c", "\uff01", "\u01c3", "\u201a", "a\u0301",
		"\U0001d41a", "\ufffd", "\xc3", "\xe2\x82", "\xed\xa0\x80", "\xc0\xa8", "\xf0\x9d",
	}
	for b := 128; b < 256; b++ {
		others = append(others, string([]byte{byte(b)}))
	}
	for _, other := range others {
		checkNoExpr(t, other)
		checkNoExpr(t, other+"()")
		checkNoExpr(t, other+"(x)")
		for _, s := range rightTexts {
			for at := range len(s) + 1 {
				checkNoExpr(t, s[:at]+other+s[at:])
				checkNoExpr(t, s[:at]+other+s[min(at+1, len(s)):])
			}
		}
	}
}

func TestVeryLongTexts(t *testing.T) {
	const times = 300000
	for _, s := range []string{
		"(", ")", ",", "!", "x", "N", "1", " ", "\xff", "()", ")(", "f(", "S(", "x(", "(f", "!(", "f((", "f()", "S()", "f)", ",x", "x,", "f(,", "S(x,", "f(x),", "f(x,x", "\u00e4",
	} {
		long := strings.Repeat(s, times)
		checkNoExpr(t, long)
		checkNoExpr(t, "f("+long)
		checkNoExpr(t, "f("+long+")")
		checkNoExpr(t, "S("+long+"x)")
		checkNoExpr(t, "f(x)"+long)
		checkNoExpr(t, long+"f(x)")
	}
	for _, inner := range []string{"", "x", "N", "!", "f()"} {
		checkNoExpr(t, strings.Repeat("f(", times)+inner+strings.Repeat(")", times))
		checkNoExpr(t, strings.Repeat("S(", times)+inner+strings.Repeat(")", times))
		checkNoExpr(t, strings.Repeat("C(x,", times)+inner+strings.Repeat(")", times))
		checkNoExpr(t, strings.Repeat("f(", times)+inner+strings.Repeat(",x)", times))
		checkNoExpr(t, "f("+strings.Repeat("x,", times)+inner+")")
	}
}

// TestTextsThatAreTooDeepForAnyStack has texts that end a program that follows
// them to the end by recursion.
func TestTextsThatAreTooDeepForAnyStack(t *testing.T) {
	for _, s := range []string{"f(", "S(", "("} {
		checkNoExpr(t, strings.Repeat(s, 10000000))
	}
}

// meaningOf is what a text stands for, from the outside to the inside: its
// parts are found by counting parentheses.
func meaningOf(s string) (impl.Expr, bool) {
	e, ok := partMeant(s)
	if !ok || !impl.IsValidExpr(e) {
		return impl.Expr{}, false
	}
	return e, true
}

func partMeant(s string) (impl.Expr, bool) {
	name, rest, open := strings.Cut(s, "(")
	inner, closed := strings.CutSuffix(rest, ")")
	isCon := name != "" && name[0] >= 'A' && name[0] <= 'Z'
	switch {
	case s == "!":
		return stuck(), true
	case !open && isCon:
		return con(name), true
	case !open:
		return variable(name), true
	case !closed:
		return impl.Expr{}, false
	case inner == "":
		return call(name), true
	}
	e := call(name)
	if isCon {
		e = con(name)
	}
	for _, text := range textsBetweenCommas(inner) {
		part, ok := partMeant(text)
		if !ok {
			return impl.Expr{}, false
		}
		e.Args = append(e.Args, part)
	}
	return e, true
}

// textsBetweenCommas splits s at the commas outside of all parentheses.
func textsBetweenCommas(s string) []string {
	var texts []string
	from, open := 0, 0
	for i := range len(s) {
		switch s[i] {
		case '(':
			open++
		case ')':
			open--
		case ',':
			if open == 0 {
				texts = append(texts, s[from:i])
				from = i + 1
			}
		}
	}
	return append(texts, s[from:])
}

// checkMeaning returns whether s is the representation of an expression.
func checkMeaning(t *testing.T, s string) bool {
	t.Helper()
	e, ok := meaningOf(s)
	if ok {
		checkText(t, e, s)
	} else {
		checkNoExpr(t, s)
	}
	return ok
}

func TestAllShortTextsOfExpressions(t *testing.T) {
	right := map[int]int{}
	textsOver("xN!(,)", 7, func(s string) {
		if checkMeaning(t, s) {
			right[len(s)]++
		}
	})
	// Counted by hand: x, N, !; xx, Nx; xxx, Nxx and x(); xxxx, Nxxx, xx() and
	// x(a), N(a) for the three a of one byte.
	for length, want := range map[int]int{0: 0, 1: 3, 2: 2, 3: 3, 4: 9} {
		if right[length] != want {
			t.Errorf("%d texts of %d bytes are accepted, want %d", right[length], length, want)
		}
	}
}

func TestTextsWithOneByteChanged(t *testing.T) {
	bytes := []string{""}
	for b := range 256 {
		bytes = append(bytes, string([]byte{byte(b)}))
	}
	for _, s := range rightTexts {
		right := 0
		for at := range len(s) + 1 {
			for _, other := range bytes {
				checkMeaning(t, s[:at]+other+s[at:])
				if at < len(s) && checkMeaning(t, s[:at]+other+s[at+1:]) {
					right++
				}
			}
		}
		if right == 0 {
			t.Errorf("no text near %q is accepted", s)
		}
	}
}

func TestBeginningsAndEndsOfTexts(t *testing.T) {
	for _, s := range rightTexts {
		for at := range len(s) {
			checkMeaning(t, s[:at])
			checkMeaning(t, s[at:])
			for _, other := range rightTexts {
				checkMeaning(t, s[:at]+other)
				checkMeaning(t, other+s[at:])
				checkMeaning(t, s[:at]+other+s[at:])
			}
		}
	}
}

func TestTextsOfSmallExpressions(t *testing.T) {
	texts := map[string]bool{}
	valid := 0
	for _, e := range smallExpressions(4) {
		if !impl.IsValidExpr(e) {
			checkWithoutText(t, e)
			continue
		}
		checkText(t, e, writtenAs(e))
		texts[impl.FormatExpr(e)] = true
		valid++
	}
	if valid < 500 || len(texts) != valid {
		t.Errorf("%d valid expressions have %d texts", valid, len(texts))
	}
}

func TestTextsOfIrregularExpressions(t *testing.T) {
	state := uint32(2)
	for round := range 2000 {
		e := irregular(1+round%(sizeLimit+10), &state)
		checkWritten(t, e, impl.SizeOf(e) <= sizeLimit && impl.DepthOf(e) <= depthLimit)
	}
}

// TestTextsLeaveArgumentsAlone covers promise 34 for chapter 4.
func TestTextsLeaveArgumentsAlone(t *testing.T) {
	build := func() impl.Expr {
		backing := []impl.Expr{variable("y"), con("C", variable("x"), variable("y")), call("f"), con("Rest"), con("More")}
		return call("g", con("D", backing[:3]...), variable("x"))
	}
	e := build()
	for range 2 {
		checkText(t, e, "g(D(y,C(x,y),f()),x)")
		checkEqual(t, e, build(), true)
		backing := e.Args[0].Args
		rest := backing[:cap(backing)][len(backing):]
		if len(rest) != 2 || !impl.EqualExpr(rest[0], con("Rest")) || !impl.EqualExpr(rest[1], con("More")) {
			t.Fatal("the capacity behind the Args changed")
		}
	}
}

func TestParsedExpressionsShareNoMemory(t *testing.T) {
	const text = "f(C(x,S(N),!),g(a,b,c,d,e),h(),D(C(N,N),C(N,N)),x)"
	first, _ := impl.ParseExpr(text)
	second, _ := impl.ParseExpr(text)
	for _, node := range nodesIn(&first) {
		rest := node.Args[:cap(node.Args)][len(node.Args):]
		for i := range rest {
			rest[i] = con("Rest")
		}
	}
	checkText(t, first, text)
	for _, node := range slices.Backward(nodesIn(&first)) {
		node.Name = "changed"
		clear(node.Args)
	}
	checkText(t, second, text)
	checkText(t, con("C", second, second), "C("+text+","+text+")")
	if third, ok := impl.ParseExpr(text); !ok || !impl.EqualExpr(third, second) {
		t.Errorf("ParseExpr(%q) = %s, %v", text, textOf(third), ok)
	}
}
