package tests

import (
	"regexp"
	"slices"
	"strconv"
	"strings"
	"testing"

	"loop.example/g00584/impl"
)

// linesOf makes a text of rules that are separated by "; ".
func linesOf(rules string) string { return strings.ReplaceAll(rules, "; ", "\n") + "\n" }

// checkProgramText is promise 6 for one valid program: text is its text.
func checkProgramText(t *testing.T, p impl.Program, text string) {
	t.Helper()
	if got := impl.FormatProgram(p); got != text {
		t.Errorf("FormatProgram of %.2000s = %.2000q, want %.2000q", programText(p), got, text)
	}
	got, line := impl.ParseProgram(text)
	if line != -1 || !impl.EqualProgram(got, p) {
		t.Errorf("ParseProgram(%.2000q) = %.2000s, %d, want %.2000s", text, programText(got), line, programText(p))
	}
	if again := impl.FormatProgram(got); again != text {
		t.Errorf("FormatProgram of what ParseProgram(%.2000q) returned = %.2000q", text, again)
	}
}

func checkWithoutProgramText(t *testing.T, p impl.Program) {
	t.Helper()
	if got := impl.FormatProgram(p); got != "" {
		t.Errorf("FormatProgram of a program that is not valid = %.2000q", got)
	}
}

// checkLine checks which line of a text is reported. No valid program has it.
func checkLine(t *testing.T, text string, want int) {
	t.Helper()
	got, line := impl.ParseProgram(text)
	if line != want || len(got.Rules) > 0 {
		t.Errorf("ParseProgram(%.2000q) = %.2000s, %d, want %d", text, programText(got), line, want)
	}
}

// The functions below read texts by regular expressions, as a second opinion on
// what ParseProgram returns.

const (
	meantName  = `[a-z][a-z0-9]{0,5}`
	meantCon   = `[A-Z][a-z0-9]{0,5}`
	meantNames = meantName + `(?:,` + meantName + `)*`
)

var (
	meantPlainLine = regexp.MustCompile(`\A(` + meantName + `)\((` + meantNames + `)?\) = ((?s:.*))\z`)
	meantMatchLine = regexp.MustCompile(`\A(` + meantName + `)\((` + meantCon + `)(?:\((` + meantNames + `)\))?(?:,(` + meantNames + `))?\) = ((?s:.*))\z`)
)

func meantList(names string) []string {
	if names == "" {
		return nil
	}
	return strings.Split(names, ",")
}

func meantRuleOfLine(line string) (impl.Rule, bool) {
	var r impl.Rule
	var body string
	if found := meantPlainLine.FindStringSubmatch(line); found != nil {
		r = impl.Rule{Name: found[1], Params: meantList(found[2])}
		body = found[3]
	} else if found := meantMatchLine.FindStringSubmatch(line); found != nil {
		r = impl.Rule{Name: found[1], Con: found[2], Vars: meantList(found[3]), Params: meantList(found[4])}
		body = found[5]
	} else {
		return impl.Rule{}, false
	}
	var ok bool
	r.Body, ok = meaningOf(body)
	names := slices.Sorted(slices.Values(slices.Concat(r.Vars, r.Params)))
	fits := len(r.Vars) <= argsLimit && len(r.Params) <= argsLimit-1
	return r, ok && fits && len(slices.Compact(names)) == len(r.Vars)+len(r.Params)
}

func meantProgram(text string) (impl.Program, int) {
	lines := strings.Split(text, "\n")
	if lines[len(lines)-1] == "" {
		lines = lines[:len(lines)-1]
	}
	var p impl.Program
	for i, line := range lines {
		r, ok := meantRuleOfLine(line)
		if !ok {
			return impl.Program{}, i
		}
		p.Rules = append(p.Rules, r)
	}
	isEnded := text == "" || strings.HasSuffix(text, "\n")
	if !isEnded || len(faultsIn(p)) > 0 {
		return impl.Program{}, len(lines)
	}
	return p, -1
}

// checkMeantText returns whether text is that of a valid program.
func checkMeantText(t *testing.T, text string) bool {
	t.Helper()
	p, line := meantProgram(text)
	if line >= 0 {
		checkLine(t, text, line)
		return false
	}
	checkProgramText(t, p, text)
	return true
}

// writtenRule is how a rule looks, right or not.
func writtenRule(r impl.Rule) string {
	args := r.Params
	if r.Con != "" {
		pattern := r.Con
		if len(r.Vars) > 0 {
			pattern += "(" + strings.Join(r.Vars, ",") + ")"
		}
		args = append([]string{pattern}, r.Params...)
	}
	body := ""
	if impl.IsValidExpr(r.Body) {
		body = writtenAs(r.Body)
	}
	return r.Name + "(" + strings.Join(args, ",") + ") = " + body
}

// checkWrittenProgram checks all functions of chapter 6 for a program, valid or
// not, and returns whether it is valid.
func checkWrittenProgram(t *testing.T, p impl.Program) bool {
	t.Helper()
	text := ""
	for _, r := range p.Rules {
		line := writtenRule(r)
		if got := impl.FormatRule(r); got != line {
			t.Errorf("FormatRule of %.2000s = %.2000q, want %.2000q", programText(impl.Program{Rules: []impl.Rule{r}}), got, line)
		}
		text += line + "\n"
	}
	isValid := len(faultsIn(p)) == 0
	if isValid {
		checkProgramText(t, p, text)
	} else {
		checkWithoutProgramText(t, p)
	}
	checkMeantText(t, text)
	checkMeantText(t, strings.TrimSuffix(text, "\n"))
	return isValid
}

var ordinaryPrograms = []string{appends, lengths, doubles, adds, patterns, plains, mixed, backward, widest}

func TestTextsOfOrdinaryPrograms(t *testing.T) {
	for _, rules := range ordinaryPrograms {
		p := programOf(t, rules)
		checkProgramText(t, p, linesOf(rules))
		for i, rule := range strings.Split(rules, "; ") {
			if got := impl.FormatRule(p.Rules[i]); got != rule {
				t.Errorf("FormatRule = %q, want %q", got, rule)
			}
		}
		if !checkWrittenProgram(t, p) {
			t.Errorf("%q is not valid", rules)
		}
		// The order of the rules is kept.
		list := strings.Split(rules, "; ")
		slices.Reverse(list)
		slices.Reverse(p.Rules)
		checkProgramText(t, p, linesOf(strings.Join(list, "; ")))
	}
}

func TestFormatRule(t *testing.T) {
	x, y := variable("x"), variable("y")
	list := func(names ...string) []string { return names }
	cases := []struct {
		rule impl.Rule
		want string
	}{
		{impl.Rule{Name: "k", Body: con("N")}, "k() = N"},
		{impl.Rule{Name: "k", Body: stuck()}, "k() = !"},
		{impl.Rule{Name: "id", Params: list("x"), Body: x}, "id(x) = x"},
		{impl.Rule{Name: "swap", Params: list("x", "y"), Body: con("P", y, x)}, "swap(x,y) = P(y,x)"},
		{impl.Rule{Name: "f", Params: list("a", "b", "c", "d"), Body: call("f")}, "f(a,b,c,d) = f()"},
		{impl.Rule{Name: "f", Con: "N", Body: con("Z")}, "f(N) = Z"},
		{impl.Rule{Name: "app", Con: "N", Params: list("y"), Body: y}, "app(N,y) = y"},
		{impl.Rule{Name: "hd", Con: "C", Vars: list("x", "y"), Body: x}, "hd(C(x,y)) = x"},
		{impl.Rule{Name: "app", Con: "C", Vars: list("h", "t"), Params: list("y"), Body: con("C", variable("h"), call("app", variable("t"), y))}, "app(C(h,t),y) = C(h,app(t,y))"},
		{impl.Rule{Name: "f", Con: "S", Vars: list("x"), Params: list("y", "z", "u", "v"), Body: x}, "f(S(x),y,z,u,v) = x"},
		{impl.Rule{Name: "f", Con: "T", Vars: list("a", "b", "c", "d", "e"), Params: list("y", "x"), Body: x}, "f(T(a,b,c,d,e),y,x) = x"},
		{impl.Rule{Name: "f1a2b3", Con: "F1a2b3", Vars: list("x1a2b3"), Params: list("y1a2b3"), Body: call("g1a2b3", con("G1a2b3"))}, "f1a2b3(F1a2b3(x1a2b3),y1a2b3) = g1a2b3(G1a2b3)"},
		{impl.Rule{Name: "k", Vars: []string{}, Params: []string{}, Body: impl.Expr{Kind: impl.ExCon, Name: "N", Args: []impl.Expr{}}}, "k() = N"},
		{impl.Rule{Name: "f", Con: "N", Vars: []string{}, Params: []string{}, Body: con("N")}, "f(N) = N"},
		// These occur in no valid program.
		{impl.Rule{}, "() = "},
		{impl.Rule{Name: "f"}, "f() = "},
		{impl.Rule{Name: "f", Con: "N"}, "f(N) = "},
		{impl.Rule{Body: con("N")}, "() = N"},
		{impl.Rule{Name: "f", Vars: list("x"), Body: x}, "f() = x"},
		{impl.Rule{Name: "f", Vars: list("x"), Params: list("y"), Body: x}, "f(y) = x"},
		{impl.Rule{Name: "f", Params: list("x", "x"), Body: y}, "f(x,x) = y"},
		{impl.Rule{Name: "f", Con: "C", Vars: list("x", "x"), Params: list("x"), Body: y}, "f(C(x,x),x) = y"},
		{impl.Rule{Name: "f", Params: list("a", "b", "c", "d", "e", "g"), Body: x}, "f(a,b,c,d,e,g) = x"},
		{impl.Rule{Name: "f", Con: "C", Vars: list("a", "b", "c", "d", "e", "g"), Body: x}, "f(C(a,b,c,d,e,g)) = x"},
		{impl.Rule{Name: "F", Con: "c", Vars: list("X"), Params: list(""), Body: con("n")}, "F(c(X),) = "},
		{impl.Rule{Name: "functio", Con: "Constru", Vars: list("variabl"), Params: list("\xff", "\n"), Body: x}, "functio(Constru(variabl),\xff,\n) = x"},
		{impl.Rule{Name: "f", Con: "C", Vars: list(""), Body: x}, "f(C()) = x"},
		{impl.Rule{Name: "f", Con: "C", Vars: list("", ""), Params: list("", ""), Body: x}, "f(C(,),,) = x"},
		{impl.Rule{Name: "f", Params: list(""), Body: x}, "f() = x"},
		{impl.Rule{Name: "f", Params: list("", ""), Body: x}, "f(,) = x"},
		{impl.Rule{Name: "f", Body: impl.Expr{Kind: impl.ExVar, Name: "x", Args: []impl.Expr{x}}}, "f() = "},
		{impl.Rule{Name: "f", Body: tower(depthLimit+1, x)}, "f() = "},
		{impl.Rule{Name: "f", Body: bushOf(sizeLimit + 1)}, "f() = "},
	}
	for _, c := range cases {
		if got := impl.FormatRule(c.rule); got != c.want {
			t.Errorf("FormatRule = %q, want %q", got, c.want)
		}
		checkWrittenProgram(t, impl.Program{Rules: []impl.Rule{c.rule}})
	}
}

func TestTextOfNoRules(t *testing.T) {
	checkProgramText(t, impl.Program{}, "")
	checkProgramText(t, impl.Program{Rules: []impl.Rule{}}, "")
	if p, line := impl.ParseProgram(""); line != -1 || len(p.Rules) != 0 {
		t.Errorf("ParseProgram of the empty text = %s, %d", programText(p), line)
	}
}

func TestLastLineWithoutNewline(t *testing.T) {
	for _, rules := range ordinaryPrograms {
		text := linesOf(rules)
		count := strings.Count(text, "\n")
		checkLine(t, strings.TrimSuffix(text, "\n"), count)
		checkLine(t, text+"k() = N", count+1)
		checkLine(t, text+"k() =", count)
		checkLine(t, text+"k", count)
		checkProgramText(t, programOf(t, rules+"; k() = N"), text+"k() = N\n")
	}
	checkLine(t, "f(x) = x", 1)
	checkLine(t, "f(x) = x\nk() = N", 2)
	checkLine(t, "k() = !", 1)
}

func TestEmptyLines(t *testing.T) {
	for text, want := range map[string]int{
		"\n": 0, "\n\n": 0, "\n\n\n": 0,
		"\nf(x) = x\n": 0, "\nf(x) = x": 0, "\n\nf(x) = x\n": 0,
		"f(x) = x\n\n": 1, "f(x) = x\n\n\n": 1,
		"f(x) = x\n\nk() = N\n": 1, "f(x) = x\n\nk() = N": 1, "f(x) = x\n\nhm\n": 1,
		"f(x) = x\nk() = N\n\n": 2, "f(x) = x\nk() = N\n\n\n": 2,
	} {
		checkLine(t, text, want)
	}
	for _, rules := range ordinaryPrograms {
		list := strings.Split(rules, "; ")
		for at := range len(list) + 1 {
			for count := 1; count <= 3; count++ {
				lines := slices.Insert(slices.Clone(list), at, slices.Repeat([]string{""}, count)...)
				checkLine(t, linesOf(strings.Join(lines, "; ")), at)
			}
		}
	}
	for _, count := range []int{10, rulesLimit, rulesLimit + 1, 1000} {
		checkLine(t, strings.Repeat("\n", count), 0)
	}
}

func TestTextsAtTheRulesLimit(t *testing.T) {
	var plain, match, both []string
	for n := range 2 * rulesLimit {
		name := strconv.Itoa(n)
		plain = append(plain, "f"+name+"(x) = x")
		match = append(match, "f(C"+name+"(x),y) = y")
		both = append(both, "f"+name+"(A(x)) = f0(x)", "g"+name+"() = N")
		for _, list := range [][]string{plain, match, both} {
			text := strings.Join(list, "\n") + "\n"
			if len(list) <= rulesLimit {
				checkProgramText(t, programOf(t, strings.Join(list, "; ")), text)
			} else {
				checkLine(t, text, len(list))
				checkWithoutProgramText(t, programOf(t, strings.Join(list, "; ")))
			}
			checkLine(t, strings.TrimSuffix(text, "\n"), len(list))
			// A line that is no rule is reported however many there are.
			checkLine(t, text+"hm\n", len(list))
			checkLine(t, "hm\n"+text, 0)
		}
	}
}

func TestTextsAtTheLimitsOfVarsAndParams(t *testing.T) {
	for vars := range 3 * argsLimit {
		for params := range 3 * argsLimit {
			r := impl.Rule{Name: "f", Con: "A", Vars: variables(vars, "x"), Params: variables(params, "y"), Body: con("B")}
			checkLimitOfRule(t, r, vars <= argsLimit && params < argsLimit)
		}
	}
	for params := range 3 * argsLimit {
		checkLimitOfRule(t, impl.Rule{Name: "f", Params: variables(params, "y"), Body: con("B")}, params < argsLimit)
	}
}

// textAround is a text of three lines, of which this one is number at.
func textAround(at int, line string) string {
	return strings.Join(slices.Insert([]string{"k() = N", "m(N) = N"}, at, line), "\n")
}

// checkLimitOfRule checks a rule of which only the limits decide whether its
// line is one of a program.
func checkLimitOfRule(t *testing.T, r impl.Rule, fits bool) {
	t.Helper()
	for at := range 3 {
		p := programOf(t, "k() = N; m(N) = N")
		p.Rules = slices.Insert(p.Rules, at, r)
		text := textAround(at, writtenRule(r)) + "\n"
		if fits {
			checkProgramText(t, p, text)
			checkLine(t, strings.TrimSuffix(text, "\n"), 3)
		} else {
			checkWithoutProgramText(t, p)
			checkLine(t, text, at)
			checkLine(t, strings.TrimSuffix(text, "\n"), at)
		}
	}
}

func TestLengthsOfNamesInProgramTexts(t *testing.T) {
	for length := 1; length <= 3*nameLimit; length++ {
		for _, ending := range []string{"a", "z", "0", "9"} {
			small := "f" + strings.Repeat(ending, length-1)
			large := "F" + strings.Repeat(ending, length-1)
			for _, r := range []impl.Rule{
				{Name: small, Body: con("N")},
				{Name: small, Con: "A", Params: []string{"x"}, Body: variable("x")},
				{Name: "f", Con: large, Body: con("N")},
				{Name: "f", Con: large, Vars: []string{"x"}, Params: []string{"y"}, Body: variable("y")},
				{Name: "f", Con: "A", Vars: []string{small}, Body: con("N")},
				{Name: "f", Con: "A", Vars: []string{"x", small, "y"}, Body: con("N")},
				{Name: "f", Params: []string{small}, Body: con("N")},
				{Name: "f", Con: "A", Vars: []string{"x"}, Params: []string{"y", small}, Body: con("N")},
				{Name: small, Params: []string{small}, Body: call(small, variable(small))},
				{Name: "f", Body: con(large)},
				{Name: "f", Con: large, Vars: []string{small}, Body: con(large, variable(small))},
			} {
				checkLimitOfRule(t, r, length <= nameLimit)
			}
		}
	}
}

func TestBodiesAtTheLimitsInProgramTexts(t *testing.T) {
	for size := 1; size <= 2*sizeLimit; size++ {
		checkLineOfBody(t, bushOf(size), size <= sizeLimit)
	}
	for depth := 1; depth <= 2*depthLimit; depth++ {
		checkLineOfBody(t, tower(depth, variable("x")), depth <= depthLimit)
	}
	for args := range 3 * argsLimit {
		checkLineOfBody(t, con("Q", copies(args, con("N"))...), args <= argsLimit)
		checkLineOfBody(t, con("S", call("q", copies(args, con("N"))...)), args <= argsLimit)
	}
}

// checkLineOfBody asks only which line is reported, whether the program would
// be valid or not.
func checkLineOfBody(t *testing.T, body impl.Expr, fits bool) {
	t.Helper()
	for at := range 3 {
		for _, end := range []string{"", "\n"} {
			text := textAround(at, "f(x) = "+writtenAs(body)) + end
			checkMeantText(t, text)
			if _, line := impl.ParseProgram(text); (line == at) != !fits {
				t.Errorf("ParseProgram(%.2000q) reports line %d", text, line)
			}
		}
	}
}

// wrongLines are FormatRule of no rule, nearly all for one reason alone.
var wrongLines = []string{
	// Blanks.
	"f(x)= x", "f(x) =x", "f(x)=x", "f(x)  = x", "f(x) =  x", "f(x)   =   x", " f(x) = x", "f(x) = x ", "f (x) = x", "f( x) = x", "f(x ) = x",
	"f(x, y) = x", "f(x ,y) = x", "f() = N ", "f( ) = N", "f(x) = C(x, x)", "f(x) = C (x,x)", "f(x) = C( x,x)", "f(x) = C(x,x )", "f(x) = f (x)", "f x = x",
	"f(C (h,t)) = h", "f(C( h,t)) = h", "f(C(h, t)) = h", "f(C(h ,t)) = h", "f(C(h,t )) = h", "f(C(h,t) ) = h", "f(C(h,t), y) = h", "f(C(h,t) ,y) = h", "f( C(h,t)) = h", "f(N, y) = y", "f(N ,y) = y",
	"f(x)\t=\tx", "f(x) =\tx", "f(x)\t= x", "f(x)\u00a0= x", "f(x) = x\r", "\tf(x) = x", "f(x) = x\t", " ", "  ", "\t", "\r",
	// No "=", or two of them.
	"f(x)", "f(x) x", "f(x)  x", "f(x) == x", "f(x) = = x", "f(x) = x = x", "f(x) = x =", "f(x) = x = ", "= f(x) = x", " = f(x) = x", "f(x) = f(x) = x", "f(x) - x", "f(x) := x", "f(x) => x", "f(x) <= x", "=", " =", "= ", " = ", " =  = ",
	// A Body that is none, or is followed by more.
	"f(x) = ", "f(x) =", "f(x) = 1", "f(x) = X(", "f(x) = (x)", "f(x) = x y", "f(x) = x,x", "f(x) = x;", "f(x) = x.", "f(x) = x)", "f(x) = f(x", "f(x) = f(x))", "f(x) = f(x)x", "f(x) = S()", "f(x) = !!", "f(x) = !(x)", "f(x) = x!", "f(x) = ?",
	"f(x) = C(x,)", "f(x) = C(,x)", "f(x) = C(x,,x)", "f(x) = C(a,b,c,d,e,f)", "f(x) = f(a,b,c,d,e,f)", "f(x) = xxxxxxx", "f(x) = Xxxxxxx", "f(x) = fffffff(x)", "f(x) = XX", "f(x) = xX", "f(x) = x # y", "f(x) = x # no", "f(x) = ()", "f(x) = ,",
	// Names that are none.
	"(x) = x", "F(x) = x", "1f(x) = x", "fF(x) = x", "f_(x) = x", "f'(x) = x", "fffffff(x) = x", "!(x) = x", "()(x) = x", "f(X1,Y) = x", "f(1) = N", "f(x,1) = x", "f(x_) = N", "f(xxxxxxx) = N", "f(x,yyyyyyy) = x", "f(!) = N", "f(x,!) = x", "f(-) = N",
	"f(xX) = N", "f(x1X) = N", "f(XX) = N", "f(Cccccccc) = N", "f(Ccccccc(x)) = x", "f(C_(x)) = x", "f(C(1)) = N", "f(C(h,1)) = h", "f(C(h,T)) = h", "f(C(H,t)) = t", "f(C(h,ttttttt)) = h", "f(C(!)) = N", "f(C(h,!)) = h", "f(c(h,t)) = h", "f(1(h,t)) = h", "f(!(h,t)) = h",
	// The same name twice.
	"f(x,x) = x", "f(x,y,x) = x", "f(x,y,y) = x", "f(a,b,c,a) = a", "f(a,b,c,c) = a", "f(C(h,h)) = h", "f(C(h,t,h)) = t", "f(C(h,t,t)) = h", "f(C(h,t),h) = h", "f(C(h,t),t) = h", "f(C(h,t),y,y) = h", "f(C(h,t),y,h) = h", "f(C(h,t),y,t) = h", "f(N,y,y) = y", "f(C(a,b,c,d,a)) = b", "f(C(a,b,c,d,e),w,x,y,e) = b",
	// Con with empty parentheses, and Vars without Con.
	"f(N()) = N", "f(N(),y) = y", "f(C()) = N", "f(C(),x,y) = x", "f((h,t)) = h", "f((h)) = h", "f((h,t),y) = h", "f((),y) = y", "f(()) = N", "f(((h,t))) = h",
	// Too many Vars or Params.
	"f(A(a,b,c,d,e,g)) = a", "f(A(a,b,c,d,e,g,h)) = a", "f(A,u,v,w,x,y) = x", "f(A(a),u,v,w,x,y) = x", "f(u,v,w,x,y) = x", "f(u,v,w,x,y,z) = x",
	// A constructor or a call where there is no place for one.
	"f(x,N) = x", "f(x,C(h,t)) = x", "f(N,N) = N", "f(N,M) = N", "f(C(h,t),N) = h", "f(C(h,t),D(x)) = h", "f(C(N)) = N", "f(C(h,N)) = h", "f(C(D(h))) = h", "f(C(h,D(t))) = h", "f(g(x)) = x", "f(g()) = N", "f(x,g(y)) = x", "f(x,g()) = x", "f(C(g(h))) = h", "f(C(g())) = N", "f(C(h,t),g(y)) = h", "f(f(x)) = x",
	// A comma or a parenthesis too many or too few.
	"f(,) = N", "f(,x) = x", "f(x,) = x", "f(x,,y) = x", "f(,,) = N", "f(x y) = x", "f(C(h t)) = h", "f(C(h,,t)) = h", "f(C(,h)) = h", "f(C(h,)) = h", "f(C(,)) = N", "f(C(h,t),) = h", "f(C(h,t),,y) = h", "f(,C(h,t)) = h", "f(C(h,t)y) = h", "f(C(h,t)(y)) = h", "f(N,) = N", "f(,N) = N", "f(N,,y) = y",
	"f = x", "fx = x", "f(x = x", "fx) = x", "f((x) = x", "f((x)) = x", "f(x)) = x", "f(x)() = x", "f()(x) = x", "f)x( = x", "f() x = x", "f(x)y = x", "(f)(x) = x", "(f(x)) = x", "(f(x) = x)", "f(C(h,t) = h", "f(Ch,t)) = h", "f(C(h,t))) = h", "f(C((h,t)) = h", "f(C((h),t)) = h", "f(C(h),t)) = h", "f[x] = x", "f{x} = x", "f<x> = x", "x = x", "C(h,t) = h", "C = N", "! = !", "f,x = x", "f(x;y) = x",
	// Bytes that are no UTF-8, and others that are no part of a rule.
	"\xff", "\xff(x) = x", "f\xff(x) = x", "f(\xff) = N", "f(x\xff) = N", "f(x) = \xff", "f(x) = x\xff", "f(x)\xff= x", "f(x) =\xff x", "\xc3f(x) = x", "f(C\x80(h,t)) = h", "f(C(h,t\xed\xa0\x80)) = h", "f(x) = C(x,\xc0\xa8)",
	"\x00", "f(x) = x\x00", "f\x00(x) = x", "f(x\x00) = N", "\ufefff(x) = x", "f(\u00e4) = N", "f(x) = \u00e4", "f(x)\u2003= x", "\uff46(x) = x", "f\uff08x\uff09 = x", "f(x) \uff1d x", "f(x\uff0cy) = x", "f(x) = \uff01",
	// What is not a rule at all.
	"hm", "f", "F", "f()", "N", "!", "x", "app(N,y) -> y", "# f(x) = x", "-- f(x) = x", "f(x) = x; g(x) = x", "f(x) = x, g(x) = x", "f(x) = x g(x) = x", "f(x) = xg(x) = x", "let f(x) = x", "f(x) = x where", "f x y = x", "start x", "?",
}

func TestLinesThatAreNoRules(t *testing.T) {
	for _, wrong := range wrongLines {
		if _, ok := meantRuleOfLine(wrong); ok {
			t.Errorf("%q is meant to be a rule", wrong)
		}
		checkLine(t, wrong, 0)
		checkLine(t, wrong+"\n", 0)
		for _, rules := range []string{"k() = N", lengths, plains} {
			list := strings.Split(rules, "; ")
			for at := range len(list) + 1 {
				text := strings.Join(slices.Insert(slices.Clone(list), at, wrong), "\n")
				checkLine(t, text, at)
				checkLine(t, text+"\n", at)
			}
		}
	}
}

func TestFirstOfTwoWrongLinesIsReported(t *testing.T) {
	list := strings.Split(doubles, "; ")
	for i, first := range wrongLines {
		second := wrongLines[(i*7+1)%len(wrongLines)]
		for at := range list {
			for behind := at + 1; behind < len(list); behind++ {
				lines := slices.Clone(list)
				lines[at], lines[behind] = first, second
				text := strings.Join(lines, "\n")
				checkLine(t, text, at)
				checkLine(t, text+"\n", at)
			}
		}
	}
}

// TestWrongLinesBeforeOtherFaults has texts that are no program for other
// reasons too, which count for nothing before a line that is no rule.
func TestWrongLinesBeforeOtherFaults(t *testing.T) {
	for text, want := range map[string]int{
		"f(x) = y\nhm\n":                     1,
		"hm\nf(x) = y\n":                     0,
		"f(x) = y\nhm":                       1,
		"f(x) = g(x)\nf(x) = x\nf(x)= x\n":   2,
		"f(A) = A(A)\nf(B) = \nf() = N\n":    1,
		"f() = N\nf() = N\n\nf() = N\n":      2,
		"f(N) = N\nf(x) = x\nf(N,x) = x\n\n": 3,
		"f(x) = y\nf(x,x) = y\n":             1,
	} {
		checkLine(t, text, want)
	}
	many := strings.Repeat("f(x) = x\n", 10*rulesLimit)
	checkLine(t, many, 10*rulesLimit)
	checkLine(t, many+"hm", 10*rulesLimit)
	checkLine(t, many+"hm\n"+many, 10*rulesLimit)
	checkLine(t, many+"\n", 10*rulesLimit)
}

// TestTextsOfRulesThatMakeNoProgram has texts of which every line is a rule.
func TestTextsOfRulesThatMakeNoProgram(t *testing.T) {
	for text, fault := range map[string]string{
		"f(x) = y":                              faultFree,
		"f() = x":                               faultFree,
		"f(x) = f":                              faultFree,
		"f(N) = x":                              faultFree,
		"f(C(h,t)) = x":                         faultFree,
		"f(C(h,t),y) = C(h,h1)":                 faultFree,
		"k() = N; f(x) = C(x,C(x,y)); m(N) = N": faultFree,
		"f(x) = g(x)":                           faultBody,
		"f(x) = x(x)":                           faultBody,
		"f(x) = C(x,C(x,g()))":                  faultBody,
		"f(x) = f()":                            faultBody,
		"f(x) = f(x,x)":                         faultBody,
		"f(C(h,t)) = f(h,t)":                    faultBody,
		"f(N,y) = f(y)":                         faultBody,
		"k() = N; f(x) = k(x); m(N) = N":        faultBody,
		"f(x) = C(C(x),x)":                      faultBody,
		"f(x) = N; g(x) = N(x)":                 faultBody,
		"f(S(x)) = S":                           faultBody,
		"f(A(x)) = x; g(A) = N":                 faultArity,
		"g(x) = A(x); f(A) = N":                 faultArity,
		"f(A(x),y) = x; f(B,y) = y; g(A(y,z)) = z": faultArity,
		"f(N) = N; f(N) = M":                       faultSame,
		"f() = N; f() = N":                         faultSame,
		"f(x) = x; k() = N; f(y) = y":              faultSame,
		"f(C(h,t)) = h; f(N) = N; f(C(a,b)) = b":   faultSame,
		"f(N) = N; f() = N":                        faultKinds,
		"f() = N; f(N) = N":                        faultKinds,
		"f(x) = x; f(N,x) = x":                     faultKinds,
		"f(N,x) = x; k() = N; f(x) = x":            faultKinds,
		"f(N) = N; f(M,x) = x":                     faultNumbers,
		"f(N,x,y) = N; f(M,x) = x":                 faultNumbers,
		"f(M,x) = x; k() = N; f(N) = N":            faultNumbers,
	} {
		p := programOf(t, text)
		checkFault(t, p, fault)
		checkWrittenProgram(t, p)
		checkLine(t, linesOf(text), len(p.Rules))
		checkLine(t, strings.TrimSuffix(linesOf(text), "\n"), len(p.Rules))
		checkLine(t, linesOf(text)+"\n", len(p.Rules))
	}
}

func TestTextsOfRulesWithOneFault(t *testing.T) {
	withOneFault(t, func(p impl.Program, fault string) {
		if checkWrittenProgram(t, p) {
			t.Errorf("%s is valid", programText(p))
		}
	})
}

func TestTextsOfSmallPrograms(t *testing.T) {
	checkSmallPrograms(t, func(p impl.Program) bool { return checkWrittenProgram(t, p) })
}

func TestTextsOfChangedPrograms(t *testing.T) {
	checkChangedPrograms(t, 4000, func(p impl.Program) bool { return checkWrittenProgram(t, p) })
}

func TestAllSmallHeads(t *testing.T) {
	right := map[int]int{}
	textsOver("fxA(),", 7, func(head string) {
		if checkMeantText(t, head+" = A\n") {
			right[len(head)]++
		}
	})
	// Counted by hand: names and an argument of 1, 0; of 2, 0 or 1, 1; of 3, 0 or
	// 2, 1 or 1, 2 bytes, where an argument is a name or begins with A.
	for length, want := range map[int]int{0: 0, 1: 0, 2: 0, 3: 2, 4: 4 + 2*3, 5: 8 + 4*3 + 2*6} {
		if right[length] != want {
			t.Errorf("%d heads of %d bytes are accepted, want %d", right[length], length, want)
		}
	}
}

func TestProgramTextsWithOneByteChanged(t *testing.T) {
	all := []string{""}
	for b := range 256 {
		all = append(all, string([]byte{byte(b)}))
	}
	few := []string{"", "\n", " ", "=", "(", ")", ",", "!", "x", "N", "0", "\x00", "\xff", "\n\n", " = ", "()", "\r\n"}
	for text, others := range map[string][]string{
		"f(C(h,t),y) = C(h,g(t))\ng(x) = !\n": all,
		"k() = N\n":                           all,
		linesOf(lengths):                      few,
		linesOf(plains):                       few,
		linesOf(widest):                       few,
	} {
		right := 0
		for at := range len(text) + 1 {
			for _, other := range others {
				if checkMeantText(t, text[:at]+other+text[at:]) {
					right++
				}
				if at < len(text) && checkMeantText(t, text[:at]+other+text[at+1:]) {
					right++
				}
			}
		}
		if right == 0 {
			t.Errorf("no text near %q is accepted", text)
		}
	}
}

func TestBeginningsAndEndsOfProgramTexts(t *testing.T) {
	for _, rules := range ordinaryPrograms {
		text := linesOf(rules)
		for at := range len(text) {
			checkMeantText(t, text[:at])
			checkMeantText(t, text[at:])
			checkMeantText(t, text[:at]+"\n"+text[at:])
			checkMeantText(t, text+text[:at])
			checkMeantText(t, text[at:]+text)
		}
	}
}

func TestVeryLongProgramTexts(t *testing.T) {
	const times = 100000
	for _, s := range []string{"f", "F", "(", ")", ",", " ", "=", " = ", "f(", "f(x,", "f(C(", "f(C(x,", "x,", "\xff", "\x00", "f(x) = ", "f(x) = f(", "()", "!", "\r"} {
		long := strings.Repeat(s, times)
		for _, text := range []string{long, "f(" + long, "f(" + long + ") = x", "f(C(" + long + ")) = N", long + "(x) = x", "f(x) = " + long, "f(x) = f(" + long + ")", long + " = x", "f(x)" + long + "x"} {
			checkLine(t, text, 0)
			checkLine(t, "k() = N\n"+text, 1)
			checkLine(t, text+"\nk() = N\n", 0)
		}
	}
	for line, want := range map[string]int{"f(x) = x\n": times, "f(C(h,t),y) = C(h,f(t,y))\n": times, "\n": 0, "\n\n": 0, "f(x) = x\n\n": 1, "f(x) = x\nhm\n": 1, "hm\n": 0} {
		long := strings.Repeat(line, times)
		checkLine(t, long, want)
		checkLine(t, strings.TrimSuffix(long, "\n"), want)
		if want == times {
			checkLine(t, long+"hm", times)
			checkLine(t, long+"f(x) = y", times+1)
		}
	}
}

// TestProgramTextsThatAreTooDeepForAnyStack has texts that end a program that
// follows them to the end by recursion.
func TestProgramTextsThatAreTooDeepForAnyStack(t *testing.T) {
	for _, s := range []string{"f(", "S(", "("} {
		deep := strings.Repeat(s, 10000000)
		checkLine(t, "k() = N\nf(x) = "+deep+"\n", 1)
		checkLine(t, "k() = N\n"+deep+" = x\n", 1)
	}
}

func TestTextsOfEndlessBodies(t *testing.T) {
	dense := con("A")
	for range 200 {
		dense = con("A", dense, dense)
	}
	args := []impl.Expr{con("N"), con("N")}
	args[0].Args = args
	for _, body := range []impl.Expr{tower(1000000, con("N")), con("C", copies(200000, con("N"))...), dense, con("C", args...)} {
		for at := range 3 {
			p := programOf(t, "f(x) = x; g(B) = B; h(x) = x")
			p.Rules[at].Body = body
			checkWithoutProgramText(t, p)
			if got, want := impl.FormatRule(p.Rules[at]), []string{"f(x) = ", "g(B) = ", "h(x) = "}[at]; got != want {
				t.Errorf("FormatRule with an endless Body = %q", got)
			}
		}
	}
	long := variables(50000, "x")
	r := impl.Rule{Name: "f", Con: "C", Vars: long, Params: long, Body: con("N")}
	names := strings.Join(long, ",")
	if got := impl.FormatRule(r); got != "f(C("+names+"),"+names+") = N" {
		t.Errorf("FormatRule of very many Vars and Params = %.200q", got)
	}
	checkWithoutProgramText(t, impl.Program{Rules: []impl.Rule{r}})
	checkWithoutProgramText(t, impl.Program{Rules: slices.Repeat([]impl.Rule{plainRule("f")}, 50000)})
}

// TestProgramTextsLeaveArgumentsAlone covers promise 34 for chapter 6.
func TestProgramTextsLeaveArgumentsAlone(t *testing.T) {
	vars := []string{"h", "t", "rest", "more"}
	params := []string{"y", "rest", "more"}
	args := []impl.Expr{variable("h"), con("N"), con("Rest"), con("More")}
	rest := impl.Rule{Name: "rest", Con: "Rest", Body: con("Rest")}
	rules := []impl.Rule{
		{Name: "f", Con: "C", Vars: vars[:2], Params: params[:1], Body: con("C", args[:2]...)},
		{Name: "g", Params: params[:1], Body: variable("y")},
		rest, rest,
	}
	p := impl.Program{Rules: rules[:2]}
	untouched := cloneProgram(impl.Program{Rules: rules})
	wholeVars, wholeParams, wholeArgs := slices.Clone(vars), slices.Clone(params), slices.Clone(args)
	for range 2 {
		checkWrittenProgram(t, p)
		checkWrittenProgram(t, impl.Program{Rules: slices.Repeat(p.Rules, 2)})
		checkProgramText(t, p, "f(C(h,t),y) = C(h,N)\ng(y) = y\n")
		checkEqualPrograms(t, impl.Program{Rules: rules}, untouched, true)
	}
	if !slices.Equal(vars, wholeVars) || !slices.Equal(params, wholeParams) || !slices.EqualFunc(args, wholeArgs, impl.EqualExpr) {
		t.Errorf("Vars, Params and Args are in %q, %q and %s", vars, params, textOf(con("Args", args...)))
	}
}

// overwriteNames changes a list and the capacity behind it.
func overwriteNames(list []string) {
	whole := list[:cap(list)]
	for i := range whole {
		whole[i] = "changed"
	}
}

// TestParsedProgramsShareNoMemory writes over each list of a program in turn,
// which must not show in the lists behind it or in another program.
func TestParsedProgramsShareNoMemory(t *testing.T) {
	for _, rules := range ordinaryPrograms {
		text := linesOf(rules)
		first, _ := impl.ParseProgram(text)
		second, _ := impl.ParseProgram(text)
		for i := range first.Rules {
			r := &first.Rules[i]
			overwriteNames(r.Vars)
			if got := meantRuleIn(t, rules, i); !slices.Equal(r.Params, got.Params) {
				t.Errorf("the Vars of rule %d of %q share memory with its Params %q", i, rules, r.Params)
			}
			overwriteNames(r.Params)
			checkEqual(t, r.Body, meantRuleIn(t, rules, i).Body, true)
			for _, node := range slices.Backward(nodesIn(&r.Body)) {
				node.Name = "changed"
				clear(node.Args[:cap(node.Args)])
			}
			for behind := i + 1; behind < len(first.Rules); behind++ {
				checkEqualPrograms(t, impl.Program{Rules: first.Rules[behind : behind+1]}, impl.Program{Rules: []impl.Rule{meantRuleIn(t, rules, behind)}}, true)
			}
		}
		clear(first.Rules[:cap(first.Rules)])
		checkProgramText(t, second, text)
	}
}

func meantRuleIn(t *testing.T, rules string, at int) impl.Rule {
	t.Helper()
	return ruleOf(t, strings.Split(rules, "; ")[at])
}
