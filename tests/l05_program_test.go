package tests

import (
	"slices"
	"strconv"
	"strings"
	"testing"

	"loop.example/g00584/impl"
)

const rulesLimit = 24

// exprOf reads an expression that is valid.
func exprOf(t *testing.T, text string) impl.Expr {
	t.Helper()
	e, ok := impl.ParseExpr(text)
	if !ok {
		t.Fatalf("%q is no expression", text)
	}
	return e
}

// ruleOf reads a rule as the document writes it. Its left side is read as an
// expression: a call whose first argument is a constructor or not.
func ruleOf(t *testing.T, text string) impl.Rule {
	t.Helper()
	left, right, _ := strings.Cut(text, " = ")
	head := exprOf(t, left)
	r := impl.Rule{Name: head.Name, Body: exprOf(t, right)}
	if len(head.Args) > 0 && head.Args[0].Kind == impl.ExCon {
		r.Con = head.Args[0].Name
		r.Vars = impl.VarsOf(head.Args[0])
		head.Args = head.Args[1:]
	}
	for _, param := range head.Args {
		r.Params = append(r.Params, param.Name)
	}
	return r
}

// programOf reads rules that are separated by "; ".
func programOf(t *testing.T, text string) impl.Program {
	t.Helper()
	var p impl.Program
	for _, rule := range strings.Split(text, "; ") {
		p.Rules = append(p.Rules, ruleOf(t, rule))
	}
	return p
}

func cloneProgram(p impl.Program) impl.Program {
	rules := slices.Clone(p.Rules)
	for i, r := range rules {
		rules[i].Vars, rules[i].Params = slices.Clone(r.Vars), slices.Clone(r.Params)
		rules[i].Body = cloneExpr(r.Body)
	}
	return impl.Program{Rules: rules}
}

// programText shows a program in a message, whatever its fields are.
func programText(p impl.Program) string {
	var rules []string
	for _, r := range p.Rules {
		lists := namesText([]string{r.Name, r.Con}) + namesText(r.Vars) + namesText(r.Params)
		rules = append(rules, lists+" "+textOf(r.Body))
	}
	return strings.Join(rules, "; ")
}

func namesText(names []string) string {
	text := "["
	for _, name := range names {
		text += strconv.Quote(name)
	}
	return text + "]"
}

// The functions whose names begin with meant follow the sentences of chapter 5
// one by one, as a second opinion on what the program returns.

func meantRule(p impl.Program, isIt func(impl.Rule) bool) int {
	for i, r := range p.Rules {
		if isIt(r) {
			return i
		}
	}
	return -1
}

func meantKind(r impl.Rule) int {
	if r.Con == "" {
		return impl.FnPlain
	}
	return impl.FnMatch
}

func meantArity(p impl.Program, name string) int {
	first := meantRule(p, func(r impl.Rule) bool { return r.Name == name })
	if first < 0 {
		return -1
	}
	n := len(p.Rules[first].Params)
	if meantKind(p.Rules[first]) == impl.FnMatch {
		n++
	}
	return n
}

// use is one occurrence of a constructor or a function.
type use struct {
	name string
	args int
}

func usesIn(e impl.Expr, kind int) []use {
	var list []use
	if e.Kind == kind {
		list = append(list, use{e.Name, len(e.Args)})
	}
	for _, part := range e.Args {
		list = append(list, usesIn(part, kind)...)
	}
	return list
}

func consIn(p impl.Program) []use {
	var list []use
	for _, r := range p.Rules {
		if r.Con != "" {
			list = append(list, use{r.Con, len(r.Vars)})
		}
		list = append(list, usesIn(r.Body, impl.ExCon)...)
	}
	return list
}

func meantConArity(list []use, con string) int {
	first := slices.IndexFunc(list, func(u use) bool { return u.name == con })
	if first < 0 {
		return -1
	}
	return list[first].args
}

func meantExprFor(p impl.Program, e impl.Expr) bool {
	if !impl.IsValidExpr(e) {
		return false
	}
	for _, u := range usesIn(e, impl.ExCall) {
		if meantArity(p, u.name) != u.args {
			return false
		}
	}
	cons := usesIn(e, impl.ExCon)
	all := append(consIn(p), cons...)
	for _, u := range cons {
		if meantConArity(all, u.name) != u.args {
			return false
		}
	}
	return true
}

const (
	faultRules    = "more than MaxRules rules"
	faultName     = "a Name that is none"
	faultCon      = "a Con that is none"
	faultVars     = "more than MaxArgs Vars"
	faultPlain    = "Vars with an empty Con"
	faultParams   = "more than MaxArgs - 1 Params"
	faultTwice    = "a name twice among Vars and Params"
	faultVariable = "a name there that is none"
	faultBody     = "a Body that is no expression for the program"
	faultFree     = "a variable that is not among Vars and Params"
	faultSame     = "two rules with the same Name and Con"
	faultKinds    = "rules of one function of different kinds"
	faultNumbers  = "rules of one function with different numbers of Params"
	faultArity    = "a Con with another number of Vars than ConArity says"
)

// faultsIn are the reasons for which a program is not valid.
func faultsIn(p impl.Program) []string {
	var faults []string
	note := func(isFault bool, fault string) {
		if isFault && !slices.Contains(faults, fault) {
			faults = append(faults, fault)
		}
	}
	note(len(p.Rules) > rulesLimit, faultRules)
	for i, r := range p.Rules {
		names := slices.Concat(r.Vars, r.Params)
		note(!impl.IsName(r.Name), faultName)
		note(r.Con != "" && !impl.IsConName(r.Con), faultCon)
		note(r.Con == "" && len(r.Vars) > 0, faultPlain)
		note(len(r.Vars) > argsLimit, faultVars)
		note(len(r.Params) > argsLimit-1, faultParams)
		for at, name := range names {
			note(!impl.IsName(name), faultVariable)
			note(slices.Contains(names[:at], name), faultTwice)
		}
		note(!meantExprFor(p, r.Body), faultBody)
		for _, u := range usesIn(r.Body, impl.ExVar) {
			note(!slices.Contains(names, u.name), faultFree)
		}
		note(r.Con != "" && meantConArity(consIn(p), r.Con) != len(r.Vars), faultArity)
		for _, other := range p.Rules[:i] {
			note(other.Name == r.Name && other.Con == r.Con, faultSame)
			note(other.Name == r.Name && meantKind(other) != meantKind(r), faultKinds)
			note(other.Name == r.Name && len(other.Params) != len(r.Params), faultNumbers)
		}
	}
	return faults
}

// checkProgram compares what every function of chapter 5 returns for a program
// with what the chapter says, and returns whether it is valid.
func checkProgram(t *testing.T, p impl.Program) bool {
	t.Helper()
	faults := faultsIn(p)
	if got := impl.IsValidProgram(p); got != (len(faults) == 0) {
		t.Errorf("IsValidProgram = %v, but the faults are %q: %.2000s", got, faults, programText(p))
	}
	names, cons := []string{"nofun", ""}, []string{"Nocon"}
	for _, r := range p.Rules {
		names, cons = append(names, r.Name), append(cons, r.Con)
		for _, u := range usesIn(r.Body, impl.ExCall) {
			names = append(names, u.name)
		}
		for _, u := range usesIn(r.Body, impl.ExCon) {
			cons = append(cons, u.name)
		}
	}
	for _, name := range impl.UniteNames(names, nil) {
		checkFunction(t, p, name)
		for _, con := range impl.UniteNames(cons, []string{""}) {
			want := meantRule(p, func(r impl.Rule) bool { return r.Name == name && r.Con == con })
			if got := impl.FindRule(p, name, con); got != want {
				t.Errorf("FindRule(%q, %q) = %d, want %d: %.2000s", name, con, got, want, programText(p))
			}
		}
	}
	for _, con := range impl.UniteNames(cons, nil) {
		if want := meantConArity(consIn(p), con); con != "" && impl.ConArity(p, con) != want {
			t.Errorf("ConArity(%q) = %d, want %d: %.2000s", con, impl.ConArity(p, con), want, programText(p))
		}
	}
	for _, r := range p.Rules {
		checkExprFor(t, p, r.Body, meantExprFor(p, r.Body))
	}
	if len(faults) == 0 {
		checkRulesAreFound(t, p)
	}
	return len(faults) == 0
}

func checkFunction(t *testing.T, p impl.Program, name string) {
	t.Helper()
	kind := impl.FnNone
	if first := meantRule(p, func(r impl.Rule) bool { return r.Name == name }); first >= 0 {
		kind = meantKind(p.Rules[first])
	}
	if got := impl.FunctionKind(p, name); got != kind {
		t.Errorf("FunctionKind(%q) = %d, want %d: %.2000s", name, got, kind, programText(p))
	}
	if got, want := impl.FunctionArity(p, name), meantArity(p, name); got != want {
		t.Errorf("FunctionArity(%q) = %d, want %d: %.2000s", name, got, want, programText(p))
	}
}

// checkRulesAreFound is promise 5 for one valid program.
func checkRulesAreFound(t *testing.T, p impl.Program) {
	t.Helper()
	for i, r := range p.Rules {
		if got := impl.FindRule(p, r.Name, r.Con); got != i {
			t.Errorf("rule %d is found as %d: %.2000s", i, got, programText(p))
		}
		kind, arity := impl.FnPlain, len(r.Params)
		if r.Con != "" {
			kind, arity = impl.FnMatch, arity+1
			if got := impl.ConArity(p, r.Con); got != len(r.Vars) {
				t.Errorf("ConArity(%q) = %d in rule %d: %.2000s", r.Con, got, i, programText(p))
			}
		}
		if gotKind, gotArity := impl.FunctionKind(p, r.Name), impl.FunctionArity(p, r.Name); gotKind != kind || gotArity != arity {
			t.Errorf("kind %d and arity %d of rule %d: %.2000s", gotKind, gotArity, i, programText(p))
		}
	}
}

func checkExprFor(t *testing.T, p impl.Program, e impl.Expr, want bool) {
	t.Helper()
	if got := impl.IsExprFor(p, e); got != want {
		t.Errorf("IsExprFor %.500s = %v: %.2000s", textOf(e), got, programText(p))
	}
}

func checkValid(t *testing.T, p impl.Program) {
	t.Helper()
	if !checkProgram(t, p) {
		t.Errorf("%.2000s is meant to be valid, but has %q", programText(p), faultsIn(p))
	}
}

// checkFault checks a program that is not valid for this reason alone.
func checkFault(t *testing.T, p impl.Program, fault string) {
	t.Helper()
	if faults := faultsIn(p); !slices.Equal(faults, []string{fault}) {
		t.Errorf("%.2000s is meant to have %q, but has %q", programText(p), fault, faults)
	}
	checkProgram(t, p)
}

const (
	appends  = "app(N,y) = y; app(C(h,t),y) = C(h,app(t,y))"
	lengths  = appends + "; len(N) = Z; len(C(h,t)) = S(len(t))"
	doubles  = "dbl(Z) = Z; dbl(S(x)) = S(S(dbl(x))); ev(Z) = T; ev(S(x)) = od(x); od(Z) = F; od(S(x)) = ev(x)"
	adds     = "add(Z,y) = y; add(S(x),y) = add(x,S(y))"
	patterns = "e(A,a,b) = a; e(B,a,b) = b; m(N) = F; m(C(h,t)) = e(h,n(t),m(t)); n(N) = F; n(C(h,t)) = e(h,T,m(t))"
	plains   = "id(x) = x; two() = S(S(Z)); swap(x,y) = P(y,id(x)); bad(x) = !; loop() = loop(); dup(x) = P(x,x)"
	mixed    = lengths + "; two() = S(S(Z)); id(x) = x; both(x,y) = P(len(x),id(app(y,x)))"
	backward = "od(S(x)) = ev(x); f(x,y) = g(h(y),x); ev(S(x)) = od(x); g(A,x) = x; od(Z) = F; h(x) = A; ev(Z) = T"
	widest   = "f(C(a,b,c,d,e),u,v,w,x) = g(a,u,x,e); g(a,b,c,d) = f(C(a,b,c,d,D(a,b,c,d,a)),a,b,c,d)"
)

func TestLimitsOfPrograms(t *testing.T) {
	if impl.MaxRules != rulesLimit || impl.FnNone != 0 || impl.FnPlain != 1 || impl.FnMatch != 2 {
		t.Errorf("MaxRules %d, kinds %d, %d, %d", impl.MaxRules, impl.FnNone, impl.FnPlain, impl.FnMatch)
	}
}

func TestOrdinaryPrograms(t *testing.T) {
	for _, text := range []string{appends, lengths, doubles, adds, patterns, plains, mixed, backward, widest} {
		p := programOf(t, text)
		checkValid(t, p)
		checkRulesAreFound(t, p)
		// The order of the rules does not matter.
		slices.Reverse(p.Rules)
		checkValid(t, p)
	}
}

func TestKindsAndArities(t *testing.T) {
	cases := []struct {
		text, name  string
		kind, arity int
	}{
		{appends, "app", impl.FnMatch, 2},
		{appends, "len", impl.FnNone, -1},
		{appends, "N", impl.FnNone, -1},
		{appends, "y", impl.FnNone, -1},
		{appends, "", impl.FnNone, -1},
		{appends, "ap", impl.FnNone, -1},
		{appends, "app1", impl.FnNone, -1},
		{lengths, "len", impl.FnMatch, 1},
		{lengths, "app", impl.FnMatch, 2},
		{doubles, "dbl", impl.FnMatch, 1},
		{doubles, "od", impl.FnMatch, 1},
		{patterns, "e", impl.FnMatch, 3},
		{patterns, "n", impl.FnMatch, 1},
		{plains, "id", impl.FnPlain, 1},
		{plains, "two", impl.FnPlain, 0},
		{plains, "swap", impl.FnPlain, 2},
		{plains, "loop", impl.FnPlain, 0},
		{mixed, "both", impl.FnPlain, 2},
		{mixed, "len", impl.FnMatch, 1},
		{backward, "od", impl.FnMatch, 1},
		{backward, "g", impl.FnMatch, 2},
		{backward, "h", impl.FnPlain, 1},
		{widest, "f", impl.FnMatch, 5},
		{widest, "g", impl.FnPlain, 4},
		// These are not valid: the first rule decides.
		{"f(A) = A; f(x,y) = x", "f", impl.FnMatch, 1},
		{"f(x,y) = x; f(A) = A", "f", impl.FnPlain, 2},
		{"f(A,x) = x; f(B,x,y) = x; f(C) = A", "f", impl.FnMatch, 2},
		{"f(x,y,z) = x; f(x) = x", "f", impl.FnPlain, 3},
		{"g(A) = A; f() = A; g(x,y) = x; f(A,x) = x", "f", impl.FnPlain, 0},
		{"g(A) = A; f() = A; g(x,y) = x; f(A,x) = x", "g", impl.FnMatch, 1},
		{"f(C(a,b,c),x) = x; f(N,x,y) = x", "f", impl.FnMatch, 2},
	}
	for _, c := range cases {
		p := programOf(t, c.text)
		if kind, arity := impl.FunctionKind(p, c.name), impl.FunctionArity(p, c.name); kind != c.kind || arity != c.arity {
			t.Errorf("%q in %q has kind %d and arity %d, want %d and %d", c.name, c.text, kind, arity, c.kind, c.arity)
		}
		checkProgram(t, p)
	}
}

func TestFindRule(t *testing.T) {
	cases := []struct {
		text, name, con string
		want            int
	}{
		{appends, "app", "N", 0}, {appends, "app", "C", 1},
		{appends, "app", "Z", -1}, {appends, "app", "", -1}, {appends, "len", "N", -1},
		{appends, "", "N", -1}, {appends, "N", "app", -1}, {appends, "y", "", -1}, {appends, "App", "N", -1}, {appends, "app", "n", -1},
		{lengths, "len", "N", 2}, {lengths, "len", "C", 3}, {lengths, "app", "C", 1}, {lengths, "len", "S", -1},
		{doubles, "od", "Z", 4}, {doubles, "od", "S", 5}, {doubles, "ev", "S", 3}, {doubles, "od", "F", -1},
		{plains, "id", "", 0}, {plains, "dup", "", 5}, {plains, "two", "", 1}, {plains, "two", "S", -1}, {plains, "none", "", -1},
		{mixed, "both", "", 6}, {mixed, "len", "", -1}, {mixed, "id", "N", -1},
		{backward, "ev", "S", 2}, {backward, "ev", "Z", 6}, {backward, "od", "Z", 4}, {backward, "g", "A", 3},
		// These are not valid: the first one is found.
		{"f(A) = A; f(B) = A; f(A) = B", "f", "A", 0},
		{"f(B) = A; f(A) = A; f(A) = B; f(A) = A", "f", "A", 1},
		{"f() = A; f(A) = A; f() = B", "f", "", 0},
		{"f(A) = A; f() = A; f() = B", "f", "", 1},
		{"f(A(x)) = x; f(A(x,y)) = x", "f", "A", 0},
		{"f(x) = x; f(x,y) = x", "f", "", 0},
	}
	for _, c := range cases {
		if got := impl.FindRule(programOf(t, c.text), c.name, c.con); got != c.want {
			t.Errorf("FindRule(%q, %q) = %d in %q, want %d", c.name, c.con, got, c.text, c.want)
		}
	}
	// Where the name ends and the constructor begins must not be lost.
	p := impl.Program{Rules: []impl.Rule{{Name: "ab"}, {Name: "a", Con: "b"}, {Con: "ab"}, {Name: "a", Con: "b"}, {}}}
	for i, want := range []int{0, 1, 2, 1, 4} {
		if got := impl.FindRule(p, p.Rules[i].Name, p.Rules[i].Con); got != want {
			t.Errorf("rule %d is found as %d", i, got)
		}
	}
}

func TestProgramWithoutRules(t *testing.T) {
	for _, p := range []impl.Program{{}, {Rules: []impl.Rule{}}} {
		checkValid(t, p)
		if impl.FunctionKind(p, "f") != impl.FnNone || impl.FunctionArity(p, "f") != -1 || impl.FindRule(p, "f", "") != -1 || impl.FindRule(p, "", "") != -1 || impl.ConArity(p, "N") != -1 {
			t.Error("something is found in a program without rules")
		}
		checkEqualPrograms(t, p, impl.Program{}, true)
		checkEqualPrograms(t, p, programOf(t, "f() = A"), false)
		for text, want := range map[string]bool{
			"x": true, "N": true, "!": true, "C(x,N)": true, "C(N,C(N,x))": true,
			"f()": false, "f(x)": false, "C(x,f())": false, "C(N,C(N))": false, "C(N(x),N)": false,
		} {
			checkExprFor(t, p, exprOf(t, text), want)
		}
	}
}

func TestPlainFunctionWithoutArguments(t *testing.T) {
	p := programOf(t, "f() = A")
	checkValid(t, p)
	if impl.FunctionKind(p, "f") != impl.FnPlain || impl.FunctionArity(p, "f") != 0 || impl.FindRule(p, "f", "") != 0 || impl.FindRule(p, "f", "A") != -1 {
		t.Error("a rule with an empty Con and no Vars")
	}
	checkExprFor(t, p, exprOf(t, "f()"), true)
	checkExprFor(t, p, exprOf(t, "f(x)"), false)
	checkExprFor(t, p, exprOf(t, "f"), true)
	for _, r := range []impl.Rule{{}, {Name: "f"}, {Name: "f", Con: "A"}} {
		q := impl.Program{Rules: []impl.Rule{r}}
		if checkProgram(t, q) {
			t.Errorf("%s is valid", programText(q))
		}
	}
}

func TestConstructorsOfPrograms(t *testing.T) {
	cases := []struct {
		text, con string
		arity     int
		valid     bool
	}{
		{lengths, "N", 0, true}, {lengths, "C", 2, true}, {lengths, "Z", 0, true}, {lengths, "S", 1, true},
		{lengths, "A", -1, true}, {lengths, "app", -1, true}, {lengths, "h", -1, true},
		{patterns, "A", 0, true}, {patterns, "T", 0, true}, {patterns, "C", 2, true},
		{widest, "C", 5, true}, {widest, "D", 5, true}, {plains, "P", 2, true},
		// First as Con of a rule, later in a Body.
		{"f(A(x)) = x; g(x) = A(x)", "A", 1, true},
		{"f(A(x)) = x; g(x) = A", "A", 1, false},
		{"f(A(x)) = x; g(x) = A(x,x)", "A", 1, false},
		{"f(A) = B; g(x) = A(x)", "A", 0, false},
		{"f(A(x)) = A(x)", "A", 1, true},
		{"f(A(x)) = A", "A", 1, false},
		{"f(A) = A(B)", "A", 0, false},
		{"f(A(x,y)) = A(x)", "A", 2, false},
		{"f(A(x)) = B(x,x,A(A(x)))", "A", 1, true},
		{"f(A(x)) = B(x,x,A(A))", "A", 1, false},
		// First in a Body, later as Con.
		{"g(x) = A(x); f(A(x)) = x", "A", 1, true},
		{"g(x) = A(x); f(A) = B", "A", 1, false},
		{"g(x) = A(x); f(A(x,y)) = x", "A", 1, false},
		{"g(x) = A; f(A(x)) = x", "A", 0, false},
		{"f(B) = A(B); f(A(x)) = x", "A", 1, true},
		{"f(B) = A(B); f(A) = B", "A", 1, false},
		{"f(B) = A; f(A) = B", "A", 0, true},
		{"f(B) = A; f(A(x)) = B", "A", 0, false},
		// As Con of two functions.
		{"f(A(x)) = x; g(A(y),x) = y", "A", 1, true},
		{"f(A(x)) = x; g(A,x) = x", "A", 1, false},
		{"f(A) = A; g(A(x)) = x", "A", 0, false},
		// Twice in one Body, beside or within each other.
		{"f(x) = C(A(x),A(x))", "A", 1, true},
		{"f(x) = C(A(x),A)", "A", 1, false},
		{"f(x) = C(A,A(x))", "A", 0, false},
		{"f(x) = A(A(x))", "A", 1, true},
		{"f(x) = A(A)", "A", 1, false},
		{"f(x) = A(A(x,x))", "A", 1, false},
		{"f(x) = C(D(E(A)),A(x))", "A", 0, false},
		{"f(x) = C(A(x),D(E(A)))", "A", 1, false},
		{"f(x) = f(f(A(x,x,x,x,x)))", "A", 5, true},
		// In two Bodies.
		{"f(x) = A(x); g(x) = A(f(x))", "A", 1, true},
		{"f(x) = A(x); g(x) = A", "A", 1, false},
		{"f(x) = A; g(x) = A(x)", "A", 0, false},
		// Names of which one begins the other.
		{"f(x) = A(x); g(x) = A1; h(A11(x,y)) = y", "A", 1, true},
		{"f(x) = A(x); g(x) = A1; h(A11(x,y)) = y", "A1", 0, true},
		{"f(x) = A(x); g(x) = A1; h(A11(x,y)) = y", "A11", 2, true},
		{"f(x) = A(x); g(x) = A1; h(A11(x,y)) = y", "A111", -1, true},
	}
	for _, c := range cases {
		p := programOf(t, c.text)
		if got := impl.ConArity(p, c.con); got != c.arity {
			t.Errorf("ConArity(%q) = %d in %q, want %d", c.con, got, c.text, c.arity)
		}
		if checkProgram(t, p) != c.valid {
			t.Errorf("%q is valid: %v", c.text, !c.valid)
		}
	}
}

// TestConstructorsOfWrongBodies has nodes that occur as they are, right or not.
func TestConstructorsOfWrongBodies(t *testing.T) {
	x, n := variable("x"), con("N")
	wide := con("W", copies(3*argsLimit, n)...)
	body := call("f", impl.Expr{Kind: impl.ExVar, Name: "x", Args: []impl.Expr{con("A", x)}}, con("A"), call("B"), variable("D"), wide)
	body.Args = append(body.Args, impl.Expr{Kind: 7, Name: "E", Args: []impl.Expr{con("low", n, n)}}, con("B", n))
	p := impl.Program{Rules: []impl.Rule{{Name: "f", Body: body}, {Name: "g", Con: "bad", Vars: copiesOf("v", 9), Body: con("B")}}}
	for name, want := range map[string]int{"A": 1, "B": 1, "D": -1, "E": -1, "W": 3 * argsLimit, "N": 0, "low": 2, "bad": 9, "f": -1, "x": -1, "v": -1} {
		if got := impl.ConArity(p, name); got != want {
			t.Errorf("ConArity(%q) = %d, want %d", name, got, want)
		}
	}
	checkProgram(t, p)
}

func copiesOf(s string, n int) []string { return slices.Repeat([]string{s}, n) }

func TestExpressionsForAProgram(t *testing.T) {
	p := programOf(t, mixed)
	cases := []struct {
		text string
		want bool
	}{
		{"x", true}, {"N", true}, {"!", true}, {"two()", true}, {"id(x)", true}, {"app(x,y)", true}, {"len(app(x,app(y,z)))", true},
		{"C(x,N)", true}, {"S(Z)", true}, {"P(two(),!)", true}, {"app(C(x,N),C(y,N))", true}, {"both(id(N),two())", true}, {"two", true},
		// Functions that do not exist, or have another number of arguments.
		{"f()", false}, {"f(x)", false}, {"lens(x)", false}, {"le(x)", false}, {"C(x,f(x))", false}, {"id(f(x))", false}, {"app(x,f())", false},
		{"two(x)", false}, {"id()", false}, {"id(x,y)", false}, {"app()", false}, {"app(x)", false}, {"app(x,y,z)", false}, {"len()", false}, {"len(x,y)", false},
		{"both(x)", false}, {"both(x,y,z)", false}, {"C(N,len())", false}, {"app(app(x),y)", false}, {"app(x,app(x,y,z))", false}, {"id(two(x))", false},
		// Constructors of the program with another number of arguments.
		{"N(x)", false}, {"C", false}, {"C(x)", false}, {"C(x,y,z)", false}, {"S", false}, {"S(x,y)", false}, {"Z(x)", false}, {"P(x)", false},
		{"C(x,C(y))", false}, {"C(C(x),y)", false}, {"id(N(x))", false}, {"C(N,S)", false}, {"app(x,Z(Z))", false}, {"Q(S)", false}, {"Q(x,S(N,N))", false},
		// Constructors that occur in the expression alone.
		{"Q", true}, {"Q(x)", true}, {"Q(x,y)", true}, {"Q(x,y,x,y,x)", true}, {"Q(Q(x))", true}, {"C(Q,Q)", true}, {"C(Q(x),Q(y))", true}, {"app(Q(x,x),Q(y,Q(x,x)))", true},
		{"Q(Q)", false}, {"Q(Q(x,y))", false}, {"C(Q,Q(x))", false}, {"C(Q(x),Q)", false}, {"C(Q(x),Q(x,y))", false}, {"app(Q(x,x),Q(y,Q(x)))", false},
		{"C(Q,S(S(S(Q(x)))))", false}, {"C(S(S(S(Q(x)))),Q)", false}, {"Q(R,R)", true}, {"Q(R,R(x))", false}, {"Q(R(x),Q(R(x),x))", true}, {"Q(R(x),Q(R(x)))", false},
		{"P(Q(x),P(R,P(Q(x),R)))", true}, {"P(Q(x),P(R,P(Q(x),R(x))))", false}, {"P(Q(x),P(R,P(Q,R)))", false},
	}
	for _, c := range cases {
		e := exprOf(t, c.text)
		checkExprFor(t, p, e, c.want)
		if meantExprFor(p, e) != c.want {
			t.Errorf("%q is meant otherwise", c.text)
		}
		// What e calls decides on a Body in the same way, together with its variables.
		q := cloneProgram(p)
		q.Rules = append(q.Rules, impl.Rule{Name: "new", Params: []string{"x", "y", "z"}, Body: cloneExpr(e)})
		if checkProgram(t, q) && !c.want {
			t.Errorf("a rule with the Body %q is valid", c.text)
		}
	}
}

func TestExpressionsThatAreNotValid(t *testing.T) {
	p := programOf(t, mixed)
	for _, e := range []impl.Expr{
		{}, {Kind: 7}, {Kind: impl.ExVar, Name: "x", Args: []impl.Expr{con("N")}}, {Kind: impl.ExStuck, Name: "x"}, {Kind: impl.ExStuck, Args: []impl.Expr{con("N")}},
		variable(""), variable("X"), variable("xxxxxxx"), con(""), con("n"), con("Nnnnnnn"), call(""), call("Two"), con("two"),
		con("Q", copies(argsLimit+1, con("N"))...), tower(depthLimit+1, con("N")), bushOf(sizeLimit + 1),
	} {
		checkExprFor(t, p, e, false)
		checkExprFor(t, impl.Program{}, e, false)
		checkExprFor(t, p, con("S", e), false)
		checkExprFor(t, p, call("app", con("N"), e), false)
	}
	deep := con("Z")
	for range depthLimit - 1 {
		deep = call("id", deep)
	}
	checkExprFor(t, p, deep, true)
	checkExprFor(t, p, call("id", deep), false)
	full := con("V", chain(15), chain(16), chain(16), chain(16), chain(16))
	checkExprFor(t, p, full, true)
	full.Args[0] = chain(16)
	checkExprFor(t, p, full, false)
}

// chain is a number in so many nodes.
func chain(size int) impl.Expr {
	e := con("Z")
	for range size - 1 {
		e = con("S", e)
	}
	return e
}

// TestExpressionsForWrongPrograms has programs that are not valid, for which
// the first rules and occurrences still decide.
func TestExpressionsForWrongPrograms(t *testing.T) {
	p := programOf(t, "f(A(x),y) = A; f(x) = B(x); g(x) = B; g(A) = B(x,y)")
	for text, want := range map[string]bool{
		"f(x,y)": true, "f(x)": false, "g(x)": true, "g()": false, "A(x)": true, "A": false, "B(x)": true, "B": false, "B(x,y)": false,
		"f(A(x),B(y))": true, "C(Q,Q)": true, "C(Q,Q(x))": false, "h()": false,
	} {
		checkExprFor(t, p, exprOf(t, text), want)
	}
	for i := range p.Rules {
		checkExprFor(t, p, p.Rules[i].Body, i == 1)
	}
	// More arguments than any call can have, and a name that none can have.
	p.Rules = append(p.Rules, impl.Rule{Name: "w", Con: "A", Params: copiesOf("x", argsLimit)}, impl.Rule{Name: "W"}, impl.Rule{Name: "v", Params: copiesOf("", argsLimit)})
	checkExprFor(t, p, call("w", copies(argsLimit+1, variable("x"))...), false)
	checkExprFor(t, p, call("w", copies(argsLimit, variable("x"))...), false)
	checkExprFor(t, p, call("v", copies(argsLimit, variable("x"))...), true)
	checkExprFor(t, p, call("W"), false)
	checkProgram(t, p)
}

// plainRule is right for every name.
func plainRule(name string) impl.Rule {
	return impl.Rule{Name: name, Params: []string{"x"}, Body: variable("x")}
}

func TestRulesLimit(t *testing.T) {
	var plain, match, both impl.Program
	for n := range 2 * rulesLimit {
		checkLimit := func(p impl.Program, r impl.Rule) impl.Program {
			t.Helper()
			p.Rules = append(p.Rules, r)
			if n < rulesLimit {
				checkValid(t, p)
			} else {
				checkFault(t, p, faultRules)
			}
			return p
		}
		name := strconv.Itoa(n)
		plain = checkLimit(plain, plainRule("f"+name))
		match = checkLimit(match, impl.Rule{Name: "f", Con: "C" + name, Vars: []string{"y"}, Params: []string{"x"}, Body: con("C0", variable("y"))})
		if n%2 == 0 {
			both = checkLimit(both, plainRule("f"+name))
		} else {
			both = checkLimit(both, impl.Rule{Name: "g" + strconv.Itoa(n%5), Con: "C" + name, Body: call("f0", call("g1", con("C1")))})
		}
	}
}

func variables(n int, prefix string) []string {
	var names []string
	for i := range n {
		names = append(names, prefix+strconv.Itoa(i))
	}
	return names
}

func TestLimitsOfVarsAndParams(t *testing.T) {
	for vars := range 2*argsLimit + 1 {
		for params := range 2*argsLimit + 1 {
			r := impl.Rule{Name: "f", Con: "A", Vars: variables(vars, "x"), Params: variables(params, "y"), Body: con("B")}
			want := []string{}
			if vars > argsLimit {
				want = append(want, faultVars)
			}
			if params > argsLimit-1 {
				want = append(want, faultParams)
			}
			p := impl.Program{Rules: []impl.Rule{plainRule("a"), r, plainRule("z")}}
			if faults := faultsIn(p); !slices.Equal(faults, want) {
				t.Errorf("%d Vars and %d Params have %q", vars, params, faults)
			}
			checkProgram(t, p)
			checkArity(t, p, "f", params+1)
		}
	}
	for params := range 2*argsLimit + 1 {
		r := impl.Rule{Name: "f", Params: variables(params, "y"), Body: con("B")}
		p := impl.Program{Rules: []impl.Rule{plainRule("a"), r, plainRule("z")}}
		if params < argsLimit {
			checkValid(t, p)
		} else {
			checkFault(t, p, faultParams)
		}
		checkArity(t, p, "f", params)
	}
}

// checkArity checks which calls of a function are expressions for a program.
func checkArity(t *testing.T, p impl.Program, name string, arity int) {
	t.Helper()
	if got := impl.FunctionArity(p, name); got != arity {
		t.Errorf("FunctionArity(%q) = %d, want %d", name, got, arity)
	}
	for args := range 2*argsLimit + 2 {
		checkExprFor(t, p, call(name, copies(args, variable("x"))...), args == arity && args <= argsLimit)
	}
}

func TestLengthsOfNamesInPrograms(t *testing.T) {
	for length := 1; length <= 2*nameLimit; length++ {
		rest := strings.Repeat("a", length-1)
		name, conName := "f"+rest, "F"+rest
		for at, fault := range []string{faultName, faultCon, faultVariable, faultVariable} {
			p := programOf(t, "first(x) = x; g(A(x),y) = A(B); last() = B")
			r := &p.Rules[1]
			switch at {
			case 0:
				r.Name = name
			case 1:
				r.Con, r.Body = conName, con("B")
			case 2:
				r.Vars[0] = name
			case 3:
				r.Params[0] = name
			}
			if length <= nameLimit {
				checkValid(t, p)
			} else {
				checkFault(t, p, fault)
			}
		}
		p := impl.Program{Rules: []impl.Rule{{Name: name, Con: conName, Vars: []string{name}, Body: call(name, con(conName, variable(name)))}}}
		if checkProgram(t, p) != (length <= nameLimit) {
			t.Errorf("%s is valid: %v", programText(p), length > nameLimit)
		}
		checkExprFor(t, p, con(conName, call(name, variable(name))), length <= nameLimit)
	}
}

func TestBodiesAtTheLimits(t *testing.T) {
	withBody := func(e impl.Expr) impl.Program {
		p := programOf(t, "f(x) = x; g(A(x)) = x; h() = A(N)")
		p.Rules[1].Body = e
		return p
	}
	deep := variable("x")
	for depth := 1; depth <= depthLimit+5; depth++ {
		p := withBody(deep)
		if depth <= depthLimit {
			checkValid(t, p)
		} else {
			checkFault(t, p, faultBody)
		}
		if depth%2 == 0 {
			deep = con("A", deep)
		} else {
			deep = call("f", deep)
		}
	}
	large := con("Q", copies(argsLimit, variable("x"))...)
	for i := 0; impl.SizeOf(large) <= sizeLimit+5; i = (i + 1) % argsLimit {
		p := withBody(large)
		if impl.SizeOf(large) <= sizeLimit {
			checkValid(t, p)
		} else {
			checkFault(t, p, faultBody)
		}
		large = cloneExpr(large)
		large.Args[i] = con("A", large.Args[i])
	}
	checkValid(t, withBody(con("Q", copies(argsLimit, con("N"))...)))
	checkFault(t, withBody(con("Q", copies(argsLimit+1, con("N"))...)), faultBody)
}

func TestRulesWithOneFault(t *testing.T) {
	withOneFault(t, func(p impl.Program, fault string) { checkFault(t, p, fault) })
	for _, text := range []string{matchingFirst, plainFirst} {
		valid := programOf(t, text)
		for range valid.Rules {
			checkValid(t, valid)
			valid.Rules = append(valid.Rules[1:], valid.Rules[0])
		}
	}
}

// withOneFault changes one rule, on which no other one depends, so that the
// program is not valid for one reason.
func withOneFault(t *testing.T, check func(p impl.Program, fault string)) {
	t.Helper()
	for text, list := range map[string][]oneFault{matchingFirst: faultsOfMatching, plainFirst: faultsOfPlain} {
		valid := programOf(t, text)
		for _, one := range list {
			p := cloneProgram(valid)
			one.change(&p.Rules[0])
			for range p.Rules {
				check(p, one.fault)
				// The rule may be any one of the program.
				p.Rules = append(p.Rules[1:], p.Rules[0])
			}
		}
	}
}

type oneFault struct {
	fault  string
	change func(r *impl.Rule)
}

const (
	matchingFirst = "f(A(h,t),y) = h; f(N,y) = C(y,id(y)); id(x) = x; two() = S(S(N)); hd(C(h,t)) = h"
	plainFirst    = "f(x) = x; id(x) = x; two() = S(S(N)); add(N,y) = y; add(C(h,t),y) = C(h,add(t,id(y))); get(N,y) = y"
)

// faultsOfMatching change "f(A(h,t),y) = h".
var faultsOfMatching = []oneFault{
	{faultName, func(r *impl.Rule) { r.Name = "" }},
	{faultName, func(r *impl.Rule) { r.Name = "F" }},
	{faultName, func(r *impl.Rule) { r.Name = "1f" }},
	{faultName, func(r *impl.Rule) { r.Name = "f_" }},
	{faultName, func(r *impl.Rule) { r.Name = "fffffff" }},
	{faultName, func(r *impl.Rule) { r.Name = "\u00e4" }},
	{faultCon, func(r *impl.Rule) { r.Con = "a" }},
	{faultCon, func(r *impl.Rule) { r.Con = "AA" }},
	{faultCon, func(r *impl.Rule) { r.Con = "1" }},
	{faultCon, func(r *impl.Rule) { r.Con = " " }},
	{faultCon, func(r *impl.Rule) { r.Con = "A " }},
	{faultCon, func(r *impl.Rule) { r.Con = "Aaaaaaa" }},
	{faultPlain, func(r *impl.Rule) { r.Name, r.Con = "g", "" }},
	{faultVars, func(r *impl.Rule) { r.Vars = append(r.Vars, "a", "b", "c", "d") }},
	{faultTwice, func(r *impl.Rule) { r.Vars[1] = "h" }},
	{faultTwice, func(r *impl.Rule) { r.Vars = append(r.Vars, "u", "h") }},
	{faultTwice, func(r *impl.Rule) { r.Vars = append(r.Vars, "u", "u") }},
	{faultTwice, func(r *impl.Rule) { r.Vars[1] = "y" }},
	{faultTwice, func(r *impl.Rule) { r.Params[0] = "h" }},
	{faultTwice, func(r *impl.Rule) { r.Params[0] = "t" }},
	{faultVariable, func(r *impl.Rule) { r.Vars[1] = "T" }},
	{faultVariable, func(r *impl.Rule) { r.Vars[1] = "" }},
	{faultVariable, func(r *impl.Rule) { r.Vars = append(r.Vars, "u", "1") }},
	{faultVariable, func(r *impl.Rule) { r.Vars = append([]string{"uuuuuuu"}, r.Vars...) }},
	{faultVariable, func(r *impl.Rule) { r.Params[0] = "Y" }},
	{faultVariable, func(r *impl.Rule) { r.Params[0] = "" }},
	{faultVariable, func(r *impl.Rule) { r.Params[0] = "y,z" }},
	{faultBody, func(r *impl.Rule) { r.Body = call("f", variable("h")) }},
	{faultBody, func(r *impl.Rule) { r.Body = call("f", variable("h"), variable("t"), variable("y")) }},
	{faultBody, func(r *impl.Rule) { r.Body = con("A", variable("h"), variable("t"), variable("y")) }},
	{faultBody, func(r *impl.Rule) { r.Body = con("S", con("A")) }},
	{faultFree, func(r *impl.Rule) { r.Body = variable("x") }},
	{faultFree, func(r *impl.Rule) { r.Body = call("f", variable("t"), variable("f")) }},
	{faultFree, func(r *impl.Rule) { r.Vars[0] = "h1" }},
	{faultFree, func(r *impl.Rule) { r.Vars = r.Vars[1:] }},
	{faultFree, func(r *impl.Rule) { r.Params[0] = "y1"; r.Body = con("C", variable("h"), con("S", variable("y"))) }},
	{faultKinds, func(r *impl.Rule) { r.Con, r.Vars, r.Body = "", nil, variable("y") }},
	{faultNumbers, func(r *impl.Rule) { r.Params = append(r.Params, "z") }},
	{faultNumbers, func(r *impl.Rule) { r.Params = nil }},
	{faultSame, func(r *impl.Rule) { r.Con, r.Vars, r.Body = "N", nil, variable("y") }},
}

// faultsOfPlain change "f(x) = x".
var faultsOfPlain = []oneFault{
	{faultName, func(r *impl.Rule) { r.Name = "F" }},
	{faultName, func(r *impl.Rule) { r.Name = "f f" }},
	{faultPlain, func(r *impl.Rule) { r.Vars = []string{"y"} }},
	{faultPlain, func(r *impl.Rule) { r.Vars = []string{"x"}; r.Params = nil }},
	{faultPlain, func(r *impl.Rule) { r.Vars = variables(argsLimit, "y") }},
	{faultParams, func(r *impl.Rule) { r.Params = append(r.Params, "a", "b", "c", "d") }},
	{faultTwice, func(r *impl.Rule) { r.Params = append(r.Params, "x") }},
	{faultTwice, func(r *impl.Rule) { r.Params = []string{"x", "y", "z", "x"} }},
	{faultTwice, func(r *impl.Rule) { r.Params = []string{"x", "y", "y", "z"} }},
	{faultTwice, func(r *impl.Rule) { r.Params = []string{"y", "x", "z", "z"} }},
	{faultVariable, func(r *impl.Rule) { r.Params = append(r.Params, "Y") }},
	{faultVariable, func(r *impl.Rule) { r.Params = append(r.Params, "yyyyyyy") }},
	{faultVariable, func(r *impl.Rule) { r.Params = []string{"y\xff", "x"} }},
	{faultBody, func(r *impl.Rule) { r.Body = impl.Expr{} }},
	{faultBody, func(r *impl.Rule) { r.Body = con("") }},
	{faultBody, func(r *impl.Rule) { r.Body = con("n") }},
	{faultBody, func(r *impl.Rule) { r.Body = call("F", variable("x")) }},
	{faultBody, func(r *impl.Rule) { r.Body = impl.Expr{Kind: 7, Name: "x"} }},
	{faultBody, func(r *impl.Rule) { r.Body = impl.Expr{Kind: impl.ExStuck, Name: "x"} }},
	{faultBody, func(r *impl.Rule) { r.Body = impl.Expr{Kind: impl.ExVar, Name: "x", Args: []impl.Expr{con("N")}} }},
	{faultBody, func(r *impl.Rule) { r.Body = con("Q", copies(argsLimit+1, con("N"))...) }},
	{faultBody, func(r *impl.Rule) { r.Body = con("S", con("S", impl.Expr{})) }},
	{faultBody, func(r *impl.Rule) { r.Body = call("nofun", variable("x")) }},
	{faultBody, func(r *impl.Rule) { r.Body = call("nofun") }},
	{faultBody, func(r *impl.Rule) { r.Body = call("x", variable("x")) }},
	{faultBody, func(r *impl.Rule) { r.Body = call("f") }},
	{faultBody, func(r *impl.Rule) { r.Body = call("f", variable("x"), variable("x")) }},
	{faultBody, func(r *impl.Rule) { r.Body = call("add", variable("x")) }},
	{faultBody, func(r *impl.Rule) { r.Body = call("add", variable("x"), variable("x"), con("N")) }},
	{faultBody, func(r *impl.Rule) { r.Body = con("S", call("id", call("two", variable("x")))) }},
	{faultBody, func(r *impl.Rule) { r.Body = con("Q", con("Q")) }},
	{faultBody, func(r *impl.Rule) { r.Body = con("P", con("Q"), con("Q", variable("x"))) }},
	{faultFree, func(r *impl.Rule) { r.Body = variable("y") }},
	{faultFree, func(r *impl.Rule) { r.Body = variable("f") }},
	{faultFree, func(r *impl.Rule) { r.Body = con("C", variable("x"), con("S", variable("h"))) }},
	{faultFree, func(r *impl.Rule) { r.Params = nil }},
	{faultFree, func(r *impl.Rule) { r.Params[0] = "x1" }},
	{faultKinds, func(r *impl.Rule) { r.Name = "get" }},
	{faultSame, func(r *impl.Rule) { r.Name = "id" }},
}

// TestRulesThatDoNotGoTogether has programs of rules that are right alone.
func TestRulesThatDoNotGoTogether(t *testing.T) {
	for text, fault := range map[string]string{
		"f(A) = A; f(A) = B":                                    faultSame,
		"f() = A; f() = A":                                      faultSame,
		"f(x) = A; g(x) = x; f(y) = y":                          faultSame,
		"f(A(x),y) = y; f(B,y) = y; g(A(x)) = x; f(A(y),x) = x": faultSame,
		"f(A) = A; f() = A":                                     faultKinds,
		"f() = A; f(A) = A":                                     faultKinds,
		"f(x) = x; f(A,x) = x":                                  faultKinds,
		"f(A,x) = x; f(B,x) = x; g(x) = x; f(x) = x":            faultKinds,
		"f(A) = A; f(B,x) = x":                                  faultNumbers,
		"f(A,x,y) = A; f(B,x) = x":                              faultNumbers,
		"f(A,x) = A; f(B,x) = x; g(A) = A; f(C(x),y,z) = x":     faultNumbers,
		"f(A(x)) = x; g(A,x) = x":                               faultArity,
		"f(A) = B; f(B) = A; g(A(x)) = x":                       faultArity,
		"f(A(x),y) = x; f(B,y) = y; g(A(y,z)) = z":              faultArity,
		"g(x) = A(x); f(A) = B":                                 faultArity,
		"g(x) = B(B(A)); f(A(x)) = x":                           faultArity,
		"f(B) = A(B); f(A) = B":                                 faultArity,
		"f(A(x)) = A":                                           faultBody,
		"f(A) = A(B)":                                           faultBody,
		"f(A(x)) = x; g(x) = A":                                 faultBody,
		"f(A(x)) = x; g(x) = B(B(A(x,x)))":                      faultBody,
		"g(x) = A(x); f(x) = A":                                 faultBody,
		"f(x) = g(x)":                                           faultBody,
		"f(x) = g(x); g(A,x) = x":                               faultBody,
		"f(x) = g(x,x); g(x) = x":                               faultBody,
		"g(A,x) = x; f(x) = g(x)":                               faultBody,
		"g(A) = g()":                                            faultBody,
		"g() = g(A)":                                            faultBody,
	} {
		checkFault(t, programOf(t, text), fault)
	}
	for _, text := range []string{
		"f(A) = A; g(A) = B", "f(A) = A; f(B) = A", "f() = A; g() = A", "f(x) = x; f1(x) = x", "f(A) = A; f(A1) = A",
		"f(A(x)) = x; g(A(y),x) = y", "f(A(x),y) = y; f(B(z,x),u) = f(x,z)", "f(x) = g(x); g(y) = f(y)", "f(A) = f(f(A))",
	} {
		checkValid(t, programOf(t, text))
	}
}

func checkEqualPrograms(t *testing.T, a impl.Program, b impl.Program, want bool) {
	t.Helper()
	if impl.EqualProgram(a, b) != want || impl.EqualProgram(b, a) != want {
		t.Errorf("EqualProgram of %.2000s and %.2000s is not %v", programText(a), programText(b), want)
	}
}

func TestEqualProgramInEveryFieldOfEveryRule(t *testing.T) {
	for _, text := range []string{"f() = A", "f(x) = x", "f(A(h,t),y,z) = B(h)", appends, patterns, mixed} {
		p := programOf(t, text)
		checkEqualPrograms(t, p, p, true)
		checkEqualPrograms(t, p, cloneProgram(p), true)
		for i := range p.Rules {
			for at, change := range changesOfOneRule {
				changed := cloneProgram(p)
				change(&changed.Rules[i])
				checkEqualPrograms(t, p, changed, programText(p) == programText(changed))
				if at < 8 && programText(p) == programText(changed) {
					t.Errorf("change %d does nothing to %s", at, programText(p))
				}
			}
			for at := range impl.SizeOf(p.Rules[i].Body) {
				changed := cloneProgram(p)
				nodesIn(&changed.Rules[i].Body)[at].Name += "1"
				checkEqualPrograms(t, p, changed, false)
			}
			without := cloneProgram(p)
			without.Rules = slices.Delete(without.Rules, i, i+1)
			checkEqualPrograms(t, p, without, false)
			twice := cloneProgram(p)
			twice.Rules = slices.Insert(twice.Rules, i, twice.Rules[i])
			checkEqualPrograms(t, p, twice, false)
			moved := cloneProgram(p)
			moved.Rules = append(append(moved.Rules[:i:i], moved.Rules[i+1:]...), moved.Rules[i])
			checkEqualPrograms(t, p, moved, i == len(p.Rules)-1)
		}
	}
}

// changesOfOneRule begin with eight that change every rule.
var changesOfOneRule = []func(*impl.Rule){
	func(r *impl.Rule) { r.Name += "1" },
	func(r *impl.Rule) { r.Con += "1" },
	func(r *impl.Rule) { r.Vars = append(r.Vars, "v") },
	func(r *impl.Rule) { r.Params = append(r.Params, "v") },
	func(r *impl.Rule) { r.Vars = append([]string{""}, r.Vars...) },
	func(r *impl.Rule) { r.Params = append([]string{""}, r.Params...) },
	func(r *impl.Rule) { r.Body = con("S", r.Body) },
	func(r *impl.Rule) { r.Name = "" },
	func(r *impl.Rule) { r.Con = "" },
	func(r *impl.Rule) { r.Vars = nil },
	func(r *impl.Rule) { r.Params = nil },
	func(r *impl.Rule) { r.Body = impl.Expr{} },
	func(r *impl.Rule) { r.Body.Kind++ },
	func(r *impl.Rule) { r.Body.Args = nil },
	func(r *impl.Rule) { r.Name, r.Con = r.Con, r.Name },
	func(r *impl.Rule) { r.Vars, r.Params = r.Params, r.Vars },
	func(r *impl.Rule) { r.Vars, r.Params = append(r.Vars, r.Params...), nil },
	func(r *impl.Rule) { r.Vars, r.Params = nil, append(r.Vars, r.Params...) },
	func(r *impl.Rule) { slices.Reverse(r.Vars) },
	func(r *impl.Rule) { slices.Reverse(r.Params) },
	func(r *impl.Rule) { r.Vars = r.Vars[:max(len(r.Vars), 1)-1] },
	func(r *impl.Rule) { r.Params = r.Params[min(len(r.Params), 1):] },
	func(r *impl.Rule) {
		for i := range r.Vars {
			r.Vars[i] += "1"
		}
	},
	func(r *impl.Rule) {
		for i := range r.Params {
			r.Params[i] = "\xff"
		}
	},
}

func TestNilAndEmptyFieldsOfPrograms(t *testing.T) {
	a := impl.Program{Rules: []impl.Rule{{Name: "f", Body: con("A")}, {Name: "g", Con: "B", Body: con("A")}}}
	b := cloneProgram(a)
	for i := range b.Rules {
		b.Rules[i].Vars, b.Rules[i].Params, b.Rules[i].Body.Args = []string{}, make([]string, 0, 3), []impl.Expr{}
	}
	checkEqualPrograms(t, a, b, true)
	checkValid(t, a)
	checkValid(t, b)
	checkEqualPrograms(t, impl.Program{}, impl.Program{Rules: []impl.Rule{{}}}, false)
	checkEqualPrograms(t, impl.Program{Rules: []impl.Rule{{}}}, impl.Program{Rules: []impl.Rule{{}, {}}}, false)
}

// smallRules are rules of two functions, right and wrong ones.
func smallRules(t *testing.T) []impl.Rule {
	var rules []impl.Rule
	for _, name := range []string{"f", "g"} {
		for _, head := range []impl.Rule{{}, {Con: "A"}, {Con: "A", Vars: []string{"x"}}, {Con: "B"}, {Vars: []string{"x"}}} {
			for _, params := range [][]string{nil, {"y"}, {"x", "y"}} {
				for _, body := range []string{"A", "x", "A(y)", "A(A(B))", "f(A)", "g(A,B)", "C(B,f(B,B))"} {
					rules = append(rules, impl.Rule{Name: name, Con: head.Con, Vars: head.Vars, Params: params, Body: exprOf(t, body)})
				}
			}
		}
	}
	return rules
}

// checkSmallPrograms checks all programs of one or two smallRules, some of which
// are valid, as check returns.
func checkSmallPrograms(t *testing.T, check func(impl.Program) bool) {
	t.Helper()
	rules := smallRules(t)
	valid := 0
	for _, first := range rules {
		for _, second := range rules {
			if check(impl.Program{Rules: []impl.Rule{first, second}}) {
				valid++
			}
		}
		check(impl.Program{Rules: []impl.Rule{first}})
	}
	if valid < 100 {
		t.Errorf("only %d programs are valid", valid)
	}
}

func TestAllSmallPrograms(t *testing.T) {
	checkSmallPrograms(t, func(p impl.Program) bool { return checkProgram(t, p) })
}

// checkChangedPrograms checks parts of valid programs put together, so that some
// are valid and others are not, as check returns.
func checkChangedPrograms(t *testing.T, rounds int, check func(impl.Program) bool) {
	t.Helper()
	var rules []impl.Rule
	for _, text := range []string{lengths, doubles, adds, patterns, plains, mixed, backward, widest} {
		rules = append(rules, programOf(t, text).Rules...)
	}
	next := numbersFrom(5)
	valid := 0
	for range rounds {
		p := programOf(t, []string{lengths, doubles, patterns, plains, mixed, backward}[next(6)])
		for range 1 + next(2) {
			r, other := &p.Rules[next(len(p.Rules))], rules[next(len(rules))]
			switch next(7) {
			case 0:
				r.Name = other.Name
			case 1:
				r.Con = other.Con
			case 2:
				r.Vars = slices.Clone(other.Vars)
			case 3:
				r.Params = slices.Clone(other.Params)
			case 4:
				r.Body = cloneExpr(other.Body)
			case 5:
				nodes := nodesIn(&r.Body)
				*nodes[next(len(nodes))] = cloneExpr(other.Body)
			case 6:
				*r, p.Rules[0] = p.Rules[0], *r
			}
		}
		if check(p) {
			valid++
		}
	}
	if valid < rounds/10 || valid > rounds*9/10 {
		t.Errorf("%d of %d programs are valid", valid, rounds)
	}
}

func TestChangedPrograms(t *testing.T) {
	checkChangedPrograms(t, 4000, func(p impl.Program) bool { return checkProgram(t, p) })
}

func TestProgramsOfEndlessExpressions(t *testing.T) {
	const depth = 1000000
	deep := func() impl.Program {
		p := programOf(t, "f(x) = x; g(A) = B; h(x) = x")
		p.Rules[1].Body = tower(depth, con("N", con("M")))
		return p
	}
	p := deep()
	if impl.IsValidProgram(p) || impl.IsExprFor(p, p.Rules[1].Body) || !impl.IsExprFor(p, con("M")) || impl.IsExprFor(p, con("N")) {
		t.Error("validity for a very deep Body")
	}
	if impl.ConArity(p, "N") != 1 || impl.ConArity(p, "M") != 0 || impl.ConArity(p, "Q") != -1 || impl.FindRule(p, "h", "") != 2 {
		t.Error("what is found around a very deep Body")
	}
	checkEqualPrograms(t, p, deep(), true)
	checkEqualPrograms(t, p, programOf(t, "f(x) = x; g(A) = B; h(x) = x"), false)
	p.Rules[1].Body = con("B", copies(200000, con("N"))...)
	if impl.IsValidProgram(p) || impl.ConArity(p, "B") != 200000 || impl.ConArity(p, "N") != 0 {
		t.Error("a very wide Body")
	}
	endless := con("A")
	for range 200 {
		endless = con("A", endless, endless)
	}
	for at := range p.Rules {
		p := programOf(t, "f(x) = x; g(A) = B; h(x) = x")
		p.Rules[at].Body = endless
		if impl.IsValidProgram(p) {
			t.Error("a program with an endless Body is valid")
		}
	}
	checkExprFor(t, programOf(t, appends), endless, false)
}

// TestProgramsOfPartsThatShareTheirArgs has Bodies that no call could go
// through node by node.
func TestProgramsOfPartsThatShareTheirArgs(t *testing.T) {
	dense := func(leaf string) impl.Expr {
		e := con(leaf, con("L"))
		for range 200 {
			e = con("A", e, e)
		}
		return e
	}
	circular := func(leaf string) impl.Expr {
		args := []impl.Expr{con("A"), con(leaf, con("L"))}
		args[0].Args = args
		return con("A", args...)
	}
	for _, build := range []func(string) impl.Expr{dense, circular} {
		programWith := func(leaf string) impl.Program {
			p := programOf(t, "f(x) = x; g(B) = C(B,B); h(x) = D(x)")
			p.Rules[1].Body = build(leaf)
			return p
		}
		p := programWith("M")
		for name, want := range map[string]int{"A": 2, "B": 0, "C": -1, "D": 1, "L": 0, "M": 1} {
			if got := impl.ConArity(p, name); got != want {
				t.Errorf("ConArity(%q) = %d, want %d", name, got, want)
			}
		}
		if impl.IsValidProgram(p) {
			t.Error("a program with an endless Body is valid")
		}
		checkExprFor(t, p, exprOf(t, "A(M(x),f(D(Q)))"), true)
		checkExprFor(t, p, exprOf(t, "A(M,x)"), false)
		checkExprFor(t, p, p.Rules[1].Body, false)
		if !impl.EqualProgram(p, p) || !impl.EqualProgram(p, programWith("M")) || impl.EqualProgram(p, programWith("N")) {
			t.Error("EqualProgram of programs with endless Bodies")
		}
	}
	// Args that begin at the same place need not be the same.
	args := []impl.Expr{con("N"), con("P", con("N"))}
	body := con("A", con("B", args[:1]...), con("C", args...))
	if got := impl.ConArity(impl.Program{Rules: []impl.Rule{{Body: body}}}, "P"); got != 1 {
		t.Errorf("ConArity of a constructor in shared Args = %d", got)
	}
}

func TestProgramsOfManyRules(t *testing.T) {
	const count = 50000
	var p impl.Program
	for i := range count {
		p.Rules = append(p.Rules, impl.Rule{Name: "f", Con: "C" + strconv.Itoa(i), Vars: variables(i%7, "x"), Body: con("N")})
	}
	p.Rules = append(p.Rules, plainRule(strings.Repeat("f", count)), plainRule("last"))
	if impl.IsValidProgram(p) || impl.FindRule(p, "f", "C49999") != count-1 || impl.FindRule(p, "last", "") != count+1 || impl.ConArity(p, "C13") != 6 || impl.FunctionArity(p, "last") != 1 {
		t.Error("a program of very many rules")
	}
	p = impl.Program{Rules: []impl.Rule{{Name: "f", Con: "A", Vars: variables(count, "x"), Params: variables(count, "y"), Body: con("B")}}}
	if impl.IsValidProgram(p) || impl.FunctionArity(p, "f") != count+1 || impl.ConArity(p, "A") != count || !impl.EqualProgram(p, cloneProgram(p)) {
		t.Error("a rule of very many variables")
	}
}

// TestProgramsLeaveArgumentsAlone covers promise 34 for chapter 5.
func TestProgramsLeaveArgumentsAlone(t *testing.T) {
	rest := impl.Rule{Name: "rest", Con: "Rest", Body: con("Rest")}
	vars := []string{"h", "t", "rest", "more", "u"}
	params := []string{"y", "rest", "more"}
	args := []impl.Expr{variable("x"), con("Q"), con("Rest"), con("More")}
	wholeVars, wholeParams, wholeArgs := slices.Clone(vars), slices.Clone(params), slices.Clone(args)
	p := programOf(t, lengths)
	p.Rules[1].Vars, p.Rules[1].Params = vars[:2], params[:1]
	p.Rules = append(p.Rules, rest, rest)[:4]
	e := call("app", con("C", args[:2]...), con("Q"))
	for _, name := range []string{"len", "add"} {
		p.Rules[3].Name = name
		untouched := cloneProgram(p)
		for range 2 {
			checkProgram(t, p)
			checkExprFor(t, p, e, true)
			checkEqualPrograms(t, p, untouched, true)
		}
	}
	checkEqual(t, e, exprOf(t, "app(C(x,Q),Q)"), true)
	behind := impl.Program{Rules: p.Rules[4:6]}
	checkEqualPrograms(t, behind, impl.Program{Rules: []impl.Rule{rest, rest}}, true)
	if !slices.Equal(vars, wholeVars) || !slices.Equal(params, wholeParams) || !slices.EqualFunc(args, wholeArgs, impl.EqualExpr) {
		t.Errorf("Vars, Params and Args are in %q, %q and %s", vars, params, textOf(con("Args", args...)))
	}
}
