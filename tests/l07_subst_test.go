package tests

import (
	"slices"
	"strconv"
	"strings"
	"testing"

	"loop.example/g00584/impl"
)

// bindingsOf reads bindings that are written like "x=S(y) z=N".
func bindingsOf(t *testing.T, text string) []impl.Binding {
	t.Helper()
	var list []impl.Binding
	for _, field := range strings.Fields(text) {
		name, value, _ := strings.Cut(field, "=")
		list = append(list, impl.Binding{Name: name, Value: exprOf(t, value)})
	}
	return list
}

// bindingsText shows bindings in a message, whatever their fields are.
func bindingsText(list []impl.Binding) string {
	var texts []string
	for _, b := range list {
		texts = append(texts, strconv.Quote(b.Name)+"="+textOf(b.Value))
	}
	return strings.Join(texts, " ")
}

func binding(name string, value impl.Expr) impl.Binding {
	return impl.Binding{Name: name, Value: value}
}

// applied is a node of the Kind of a variable with Args, which is not valid.
func applied(name string, args ...impl.Expr) impl.Expr {
	return impl.Expr{Kind: impl.ExVar, Name: name, Args: args}
}

// The functions whose names begin with meant follow the sentences of chapter 7
// one by one, as a second opinion on what the program returns.

func meantBinding(list []impl.Binding, name string) int {
	return slices.IndexFunc(list, func(b impl.Binding) bool { return b.Name == name })
}

func meantApplied(e impl.Expr, list []impl.Binding) impl.Expr {
	if e.Kind == impl.ExVar {
		if at := meantBinding(list, e.Name); at >= 0 {
			return list[at].Value
		}
		return e
	}
	changed := impl.Expr{Kind: e.Kind, Name: e.Name}
	for _, part := range e.Args {
		changed.Args = append(changed.Args, meantApplied(part, list))
	}
	return changed
}

func meantMatch(pattern impl.Expr, e impl.Expr) ([]impl.Binding, bool) {
	list, ok := meantComparison(pattern, e, nil)
	return list, ok && textOf(meantApplied(pattern, list)) == textOf(e)
}

// meantComparison continues a list of bindings.
func meantComparison(pattern impl.Expr, e impl.Expr, list []impl.Binding) ([]impl.Binding, bool) {
	if pattern.Kind == impl.ExVar && len(pattern.Args) == 0 {
		at := meantBinding(list, pattern.Name)
		if at < 0 {
			return append(list, binding(pattern.Name, e)), true
		}
		return list, textOf(list[at].Value) == textOf(e)
	}
	ok := pattern.Kind == e.Kind && pattern.Name == e.Name && len(pattern.Args) == len(e.Args)
	for i := 0; ok && i < len(pattern.Args); i++ {
		list, ok = meantComparison(pattern.Args[i], e.Args[i], list)
	}
	return list, ok
}

func isMeantRenaming(list []impl.Binding) bool {
	var names []string
	for _, b := range list {
		if b.Value.Kind != impl.ExVar || len(b.Value.Args) > 0 || slices.Contains(names, b.Value.Name) {
			return false
		}
		names = append(names, b.Value.Name)
	}
	return true
}

func checkApplied(t *testing.T, e impl.Expr, list []impl.Binding, want impl.Expr) {
	t.Helper()
	if got := impl.ApplyBindings(e, list); textOf(got) != textOf(want) {
		t.Errorf("ApplyBindings(%.500s, %.500s) = %.500s, want %.500s", textOf(e), bindingsText(list), textOf(got), textOf(want))
	}
}

// checkList checks a list of bindings with its bool, and that there is no list
// where this is false.
func checkList(t *testing.T, what string, got []impl.Binding, ok bool, want []impl.Binding, wantOK bool) {
	t.Helper()
	if !wantOK {
		want = nil
	}
	if ok != wantOK || bindingsText(got) != bindingsText(want) || !ok && got != nil {
		t.Errorf("%.1000s = %.500s, %v, want %.500s, %v", what, bindingsText(got), ok, bindingsText(want), wantOK)
	}
}

// checkMatch is promise 7 for a pattern and an expression. It returns whether
// they match.
func checkMatch(t *testing.T, pattern impl.Expr, e impl.Expr) bool {
	t.Helper()
	want, isMatch := meantMatch(pattern, e)
	of := "(" + textOf(pattern) + ", " + textOf(e) + ")"
	list, ok := impl.MatchExpr(pattern, e)
	checkList(t, "MatchExpr"+of, list, ok, want, isMatch)
	if impl.IsInstance(e, pattern) != isMatch {
		t.Errorf("IsInstance, with the pattern first, %s is not %v", of, isMatch)
	}
	if isMatch {
		checkApplied(t, pattern, list, e)
	}
	if isMatch && !hasApplied(pattern) {
		checkOrder(t, pattern, list)
	}
	checkRenaming(t, pattern, e)
	if checkRenaming(t, e, pattern); !hasApplied(pattern) && !hasApplied(e) {
		checkUndone(t, pattern, e)
	}
	return isMatch
}

func checkRenaming(t *testing.T, a impl.Expr, b impl.Expr) {
	t.Helper()
	want, isMatch := meantMatch(a, b)
	list, ok := impl.RenamingOf(a, b)
	checkList(t, "RenamingOf("+textOf(a)+", "+textOf(b)+")", list, ok, want, isMatch && isMeantRenaming(want))
}

func hasApplied(e impl.Expr) bool {
	return slices.ContainsFunc(nodesIn(&e), func(node *impl.Expr) bool {
		return node.Kind == impl.ExVar && len(node.Args) > 0
	})
}

func checkOrder(t *testing.T, pattern impl.Expr, list []impl.Binding) {
	t.Helper()
	var names []string
	for _, b := range list {
		names = append(names, b.Name)
	}
	if want := impl.VarsOf(pattern); !slices.Equal(names, want) {
		t.Errorf("the bindings of %.500s have the names %.500q, want %.500q", textOf(pattern), names, want)
	}
}

// checkUndone checks what is a renaming, or is none, also from b to a.
func checkUndone(t *testing.T, a impl.Expr, b impl.Expr) {
	t.Helper()
	list, isRenaming := impl.RenamingOf(a, b)
	var undone []impl.Binding
	for _, one := range list {
		undone = append(undone, binding(one.Value.Name, variable(one.Name)))
	}
	back, ok := impl.RenamingOf(b, a)
	checkList(t, "RenamingOf("+textOf(b)+", "+textOf(a)+"), back,", back, ok, undone, isRenaming)
	if isRenaming {
		checkApplied(t, b, back, a)
		checkApplied(t, impl.ApplyBindings(a, list), undone, a)
	}
}

func TestMatches(t *testing.T) {
	for _, c := range []struct{ pattern, e, want string }{
		{"x", "N", "x=N"},
		{"x", "x", "x=x"},
		{"x", "y", "x=y"},
		{"x", "!", "x=!"},
		{"x", "f()", "x=f()"},
		{"x", "C(x,S(x))", "x=C(x,S(x))"},
		{"app(x,y)", "app(N,Z)", "x=N y=Z"},
		{"app(y,x)", "app(N,Z)", "y=N x=Z"},
		{"app(x,y)", "app(y,x)", "x=y y=x"},
		{"app(x,S(y))", "app(N,S(S(z)))", "x=N y=S(z)"},
		{"C(S(S(z)),S(y),x)", "C(S(S(A)),S(B),D)", "z=A y=B x=D"},
		{"f(x,C(y,z),u)", "f(u,C(z,y),x)", "x=u y=z z=y u=x"},
		{"C(x,x)", "C(N,N)", "x=N"},
		{"C(x,x)", "C(y,y)", "x=y"},
		{"C(x,x)", "C(f(y,N),f(y,N))", "x=f(y,N)"},
		{"C(x,S(x))", "C(S(x),S(S(x)))", "x=S(x)"},
		{"C(y,x,y,x,y)", "C(A,B,A,B,A)", "y=A x=B"},
		{"app(app(x,y),x)", "app(app(g(z),z),g(z))", "x=g(z) y=z"},
		{"C(S(x),x)", "C(S(S(N)),S(N))", "x=S(N)"},
		// Patterns without variables.
		{"N", "N", ""},
		{"!", "!", ""},
		{"f()", "f()", ""},
		{"C(N,S(S(N)))", "C(N,S(S(N)))", ""},
		{"app(C(N,!),f())", "app(C(N,!),f())", ""},
		// The names of functions and constructors are no variables.
		{"x(y)", "x(N)", "y=N"},
		{"x(x)", "x(x(N))", "x=x(N)"},
		{"app(app,y)", "app(N,Z)", "app=N y=Z"},
	} {
		pattern, e := exprOf(t, c.pattern), exprOf(t, c.e)
		list, ok := impl.MatchExpr(pattern, e)
		checkList(t, "MatchExpr("+c.pattern+", "+c.e+")", list, ok, bindingsOf(t, c.want), true)
		checkMatch(t, pattern, e)
	}
}

func TestNoMatches(t *testing.T) {
	for _, c := range [][2]string{
		// A variable with different parts.
		{"C(x,x)", "C(N,Z)"}, {"C(x,x)", "C(y,z)"}, {"C(x,x)", "C(x,y)"}, {"C(x,S(x))", "C(N,S(S(N)))"}, {"C(x,S(x))", "C(x,x)"},
		{"C(x,x)", "C(f(N),f(!))"}, {"C(x,x)", "C(S(S(N)),S(S(Z)))"}, {"C(x,x)", "C(x,x())"}, {"C(x,y,x)", "C(N,N,Z)"}, {"C(x,y,y)", "C(N,N,Z)"},
		{"C(x,x,x,x,x)", "C(N,N,N,N,Z)"}, {"app(app(x,y),x)", "app(app(N,Z),Z)"}, {"C(x,x)", "C(D(N,Z),D(Z,N))"},
		// Another kind, name or number of Args.
		{"N", "x"}, {"N", "!"}, {"N", "f()"}, {"N", "Z"}, {"N", "N(x)"}, {"N(x)", "N"}, {"N(x)", "N(x,x)"}, {"N(x,y)", "N(x)"}, {"S(x)", "T(x)"}, {"S(x)", "x"}, {"S(x)", "y"},
		{"f()", "f"}, {"f()", "g()"}, {"f()", "f(x)"}, {"f(x)", "f()"}, {"f(x)", "f(x,y)"}, {"f(x)", "g(x)"}, {"f(x)", "f"}, {"f(x)", "x"}, {"f(x)", "S(x)"}, {"S(x)", "f(x)"}, {"f(x)", "!"},
		{"!", "x"}, {"!", "N"}, {"!", "f()"},
		// The same in a part, behind or before parts that match.
		{"C(x,N)", "C(N,Z)"}, {"C(N,x)", "C(Z,N)"}, {"C(x,N)", "C(N,x)"}, {"C(N,x)", "C(x,N)"}, {"C(S(S(x)),y)", "C(S(N),N)"}, {"C(y,S(S(x)))", "C(N,S(f(x)))"},
		{"app(x,C(y,N))", "app(x,C(y,y))"}, {"app(C(y,N),x)", "app(C(y,f()),x)"}, {"C(x,S(!))", "C(x,S(x))"},
	} {
		pattern, e := exprOf(t, c[0]), exprOf(t, c[1])
		list, ok := impl.MatchExpr(pattern, e)
		checkList(t, "MatchExpr("+c[0]+", "+c[1]+")", list, ok, nil, false)
		if checkMatch(t, pattern, e) {
			t.Errorf("%s matches %s", c[0], c[1])
		}
	}
}

func TestRenamings(t *testing.T) {
	for _, c := range []struct{ a, b, want string }{
		{"x", "y", "x=y"},
		{"x", "x", "x=x"},
		{"C(x,y)", "C(y,x)", "x=y y=x"},
		{"C(x,y,z)", "C(y,z,x)", "x=y y=z z=x"},
		{"C(x,x)", "C(y,y)", "x=y"},
		{"app(x,app(y,x))", "app(u,app(x,u))", "x=u y=x"},
		{"f(C(x,N),S(y))", "f(C(y,N),S(z))", "x=y y=z"},
		{"N", "N", ""},
		{"f(C(N,!))", "f(C(N,!))", ""},
	} {
		a, b := exprOf(t, c.a), exprOf(t, c.b)
		list, ok := impl.RenamingOf(a, b)
		checkList(t, "RenamingOf("+c.a+", "+c.b+")", list, ok, bindingsOf(t, c.want), true)
		checkMatch(t, a, b)
		checkMatch(t, b, a)
	}
}

// TestNoRenamings has pairs that are no renaming in either direction, though
// the first is a pattern for the second in most of them.
func TestNoRenamings(t *testing.T) {
	for _, c := range [][2]string{
		{"x", "N"}, {"x", "!"}, {"x", "f()"}, {"x", "f(x)"}, {"x", "S(y)"}, {"C(x,y)", "C(y,N)"}, {"C(x,y)", "C(N,y)"}, {"C(x,y)", "C(z,f(z))"},
		{"C(x,y)", "C(z,z)"}, {"C(x,y)", "C(x,x)"}, {"C(x,y)", "C(y,y)"}, {"C(x,y,z)", "C(y,x,y)"}, {"app(x,app(y,z))", "app(u,app(v,u))"}, {"C(x,S(y),x)", "C(y,S(y),y)"},
		{"C(x,x)", "C(y,z)"}, {"C(x,x)", "C(x,y)"}, {"C(x,N)", "C(x,Z)"}, {"f(x)", "g(x)"}, {"S(x)", "f(x)"}, {"f(x)", "f(x,y)"}, {"N", "Z"}, {"N", "!"},
	} {
		a, b := exprOf(t, c[0]), exprOf(t, c[1])
		for _, pair := range [][2]impl.Expr{{a, b}, {b, a}} {
			list, ok := impl.RenamingOf(pair[0], pair[1])
			checkList(t, "RenamingOf of "+c[0]+" and "+c[1], list, ok, nil, false)
			checkMatch(t, pair[0], pair[1])
		}
	}
}

func TestVariablesThatAreExchanged(t *testing.T) {
	for _, c := range []struct{ e, list, want string }{
		{"C(x,y)", "x=y y=x", "C(y,x)"},
		{"C(x,y)", "y=x x=y", "C(y,x)"},
		{"C(x,y,z)", "x=y y=z z=x", "C(y,z,x)"},
		{"C(x,y,z)", "z=x y=z x=y", "C(y,z,x)"},
		{"x", "x=y y=x", "y"},
		{"x", "x=x", "x"},
		{"x", "x=S(x)", "S(x)"},
		{"C(x,x)", "x=C(x,x)", "C(C(x,x),C(x,x))"},
		{"app(x,y)", "x=app(y,x) y=app(x,y)", "app(app(y,x),app(x,y))"},
		{"app(x,y)", "x=y y=N", "app(y,N)"},
		{"app(x,y)", "y=x x=N", "app(N,x)"},
		{"f(S(x),g(y,!))", "x=C(y,z) y=C(x,z) z=N", "f(S(C(y,z)),g(C(x,z),!))"},
	} {
		checkApplied(t, exprOf(t, c.e), bindingsOf(t, c.list), exprOf(t, c.want))
	}
	for count := 2; count <= 40; count++ {
		checkRotation(t, variables(count, "v"))
	}
}

// checkRotation replaces each variable by the next one, and the last by the
// first, as often as it takes for all to stand where they stood.
func checkRotation(t *testing.T, names []string) {
	t.Helper()
	var list []impl.Binding
	var args []impl.Expr
	for i, name := range names {
		args = append(args, variable(name))
		list = append(list, binding(name, variable(names[(i+1)%len(names)])))
	}
	start := con("C", args...)
	e := start
	for round := range names {
		if at := impl.VarsOf(e)[0]; at != names[round] {
			t.Errorf("after %d rounds of %q, the first variable is %s", round, names, at)
		}
		checkMatch(t, start, e)
		e = impl.ApplyBindings(e, list)
	}
	checkEqual(t, e, start, true)
}

func TestVariablesWithoutABinding(t *testing.T) {
	n, x, y, z := con("N"), variable("x"), variable("y"), variable("z")
	list := bindingsOf(t, "x=Z x1=Y f=Q")
	for _, c := range []struct{ e, want impl.Expr }{
		{y, y},
		{con("C", x, y), con("C", con("Z"), y)},
		{con("C", y, call("f", z, x)), con("C", y, call("f", z, con("Z")))},
		{con("x", call("x", n)), con("x", call("x", n))},
		{variable("xx"), variable("xx")},
		{variable(""), variable("")},
		{variable("X"), variable("X")},
		// With Args, which are kept as they are.
		{applied("y", n), applied("y", n)},
		{applied("y", x), applied("y", x)},
		{applied("y", con("C", x, applied("x", x)), x), applied("y", con("C", x, applied("x", x)), x)},
		{con("C", applied("y", x), x), con("C", applied("y", x), con("Z"))},
		{call("f", x, applied("z", stuck(), impl.Expr{}), x), call("f", con("Z"), applied("z", stuck(), impl.Expr{}), con("Z"))},
		// With Args and a binding.
		{applied("x", n), con("Z")},
		{applied("x", x, y), con("Z")},
		{con("C", applied("x1", applied("y", x)), applied("x")), con("C", con("Y"), con("Z"))},
	} {
		checkApplied(t, c.e, list, c.want)
		checkApplied(t, c.e, nil, c.e)
		checkApplied(t, c.e, []impl.Binding{}, c.e)
		checkApplied(t, c.e, bindingsOf(t, "a=N b=x"), c.e)
	}
}

func TestFindBinding(t *testing.T) {
	list := bindingsOf(t, "x=N y=S(x) x=Z z=! y=f() xy=C(x,y)")
	list = append(list, binding("", variable("")), binding("zero", impl.Expr{}), binding("zero", con("N")), binding("\xff", applied("x", impl.Expr{Kind: -3})))
	for name, want := range map[string]impl.Expr{
		"x": con("N"), "y": con("S", variable("x")), "z": stuck(), "xy": con("C", variable("x"), variable("y")),
		"": variable(""), "zero": {}, "\xff": applied("x", impl.Expr{Kind: -3}),
	} {
		if got, ok := impl.FindBinding(list, name); !ok || textOf(got) != textOf(want) {
			t.Errorf("FindBinding of %q = %s, %v, want %s", name, textOf(got), ok, textOf(want))
		}
		checkApplied(t, variable(name), list, want)
	}
	for _, name := range []string{"a", "X", "xyz", "x ", " x", "N", "zer", "\x00", "\ufffd"} {
		checkNotFound(t, list, name)
	}
	for _, name := range []string{"", "x", "N"} {
		checkNotFound(t, nil, name)
		checkNotFound(t, []impl.Binding{}, name)
		checkNotFound(t, list[:0], name)
	}
}

func checkNotFound(t *testing.T, list []impl.Binding, name string) {
	t.Helper()
	if got, ok := impl.FindBinding(list, name); ok || textOf(got) != textOf(impl.Expr{}) {
		t.Errorf("FindBinding of %q in %s = %s, %v", name, bindingsText(list), textOf(got), ok)
	}
	checkApplied(t, variable(name), list, variable(name))
}

// TestFirstOfEqualNamesCounts rotates a list, so that each binding comes first.
func TestFirstOfEqualNamesCounts(t *testing.T) {
	list := bindingsOf(t, "x=A x=B x=x x=S(x) x=A")
	for range list {
		got, ok := impl.FindBinding(list, "x")
		if !ok || textOf(got) != textOf(list[0].Value) {
			t.Errorf("FindBinding in %s = %s, %v", bindingsText(list), textOf(got), ok)
		}
		checkApplied(t, con("C", variable("x"), variable("y")), list, con("C", list[0].Value, variable("y")))
		checkApplied(t, con("C", variable("x"), variable("y")), append(bindingsOf(t, "y=N"), list...), con("C", list[0].Value, con("N")))
		list = append(list[1:], list[0])
	}
}

// TestVariablesWithArgsInPatterns has nodes that only have the Kind of a
// variable, in patterns and in expressions.
func TestVariablesWithArgsInPatterns(t *testing.T) {
	n, x, y, z := con("N"), variable("x"), variable("y"), variable("z")
	for _, c := range []struct {
		pattern, e impl.Expr
		want       []impl.Binding
	}{
		{applied("x", n), applied("x", n), nil},
		{applied("x", y), applied("x", y), []impl.Binding{binding("y", y)}},
		{applied("x", y, z, y), applied("x", y, z, y), []impl.Binding{binding("y", y), binding("z", z)}},
		{con("C", x, applied("y", n)), con("C", n, applied("y", n)), []impl.Binding{binding("x", n)}},
		{con("C", applied("y", n), x), con("C", applied("y", n), y), []impl.Binding{binding("x", y)}},
		{con("C", x, applied("y", x)), con("C", x, applied("y", x)), []impl.Binding{binding("x", x)}},
		{con("C", applied("y", applied("z", x)), x), con("C", applied("y", applied("z", x)), x), []impl.Binding{binding("x", x)}},
		// The name is bound to just what the node is.
		{con("C", x, applied("x", n)), con("C", applied("x", n), applied("x", n)), []impl.Binding{binding("x", applied("x", n))}},
		{con("C", applied("x", n), x), con("C", applied("x", n), applied("x", n)), []impl.Binding{binding("x", applied("x", n))}},
		{con("C", applied("x", applied("y", n)), x), con("C", applied("x", applied("y", n)), applied("x", applied("y", n))), []impl.Binding{binding("x", applied("x", applied("y", n)))}},
		{x, applied("x", n), []impl.Binding{binding("x", applied("x", n))}},
		{x, applied("y", x), []impl.Binding{binding("x", applied("y", x))}},
		{con("C", x, x), con("C", applied("y", n), applied("y", n)), []impl.Binding{binding("x", applied("y", n))}},
	} {
		list, ok := impl.MatchExpr(c.pattern, c.e)
		checkList(t, "MatchExpr("+textOf(c.pattern)+", "+textOf(c.e)+")", list, ok, c.want, true)
		checkMatch(t, c.pattern, c.e)
	}
	// A Value with Args is no variable.
	for _, c := range [][2]impl.Expr{{x, applied("x", n)}, {x, applied("y", y)}, {con("C", x, y), con("C", y, applied("x", n))}} {
		list, ok := impl.RenamingOf(c[0], c[1])
		checkList(t, "RenamingOf("+textOf(c[0])+", "+textOf(c[1])+")", list, ok, nil, false)
	}
}

// TestNoMatchesOfVariablesWithArgs has patterns that differ from the expression,
// and such that agree with it node by node though no bindings yield it.
func TestNoMatchesOfVariablesWithArgs(t *testing.T) {
	n, x, y, z := con("N"), variable("x"), variable("y"), variable("z")
	for _, c := range [][2]impl.Expr{
		{applied("x", n), n}, {applied("x", n), x}, {applied("x", n), y}, {applied("x", n), applied("y", n)}, {applied("x", n), applied("x", y)}, {applied("x", n), applied("x", n, n)}, {applied("x", n, n), applied("x", n)},
		{applied("x", n), call("x", n)}, {applied("x", n), con("x", n)}, {call("x", n), applied("x", n)}, {con("x", n), applied("x", n)}, {n, applied("x", n)},
		{applied("x", y), con("N", n)}, {con("C", x, applied("x", n)), con("C", n, n)}, {con("C", x, applied("y", x)), con("C", n, applied("y", y))}, {con("C", x, x), con("C", x, applied("x", n))},
		// Variables in Args that are kept.
		{applied("x", y), applied("x", n)}, {applied("x", y), applied("x", z)}, {applied("x", y), applied("x", applied("y", n))}, {applied("x", y, z), applied("x", z, y)}, {applied("x", con("C", y)), applied("x", con("C", n))},
		{applied("x", applied("y", z)), applied("x", applied("y", n))}, {con("C", x, applied("y", x)), con("C", n, applied("y", n))}, {con("C", x, applied("y", x)), con("C", z, applied("y", z))}, {con("C", applied("y", x), x), con("C", applied("y", z), z)},
		// Names that are bound elsewhere.
		{con("C", x, applied("x", n)), con("C", n, applied("x", n))}, {con("C", applied("x", n), x), con("C", applied("x", n), n)}, {con("C", x, applied("x", n)), con("C", x, applied("x", n))}, {con("C", applied("x", n), x), con("C", applied("x", n), y)},
		{con("C", x, call("f", applied("x", y))), con("C", z, call("f", applied("x", y)))}, {applied("x", x), applied("x", x)}, {applied("x", x), applied("x", n)}, {applied("x", x, y), applied("x", y, x)}, {applied("x", y, con("S", x)), applied("x", y, con("S", x))},
	} {
		list, ok := impl.MatchExpr(c[0], c[1])
		checkList(t, "MatchExpr("+textOf(c[0])+", "+textOf(c[1])+")", list, ok, nil, false)
		list, ok = impl.RenamingOf(c[0], c[1])
		checkList(t, "RenamingOf("+textOf(c[0])+", "+textOf(c[1])+")", list, ok, nil, false)
		if impl.IsInstance(c[1], c[0]) {
			t.Errorf("%s is an instance of %s", textOf(c[1]), textOf(c[0]))
		}
		checkMatch(t, c[0], c[1])
	}
}

func TestSubstitutionsWithFormsThatAreNone(t *testing.T) {
	x, z := variable("x"), con("Z")
	list := []impl.Binding{binding("x", z), binding("", con("N")), binding("X", impl.Expr{}), binding("\xff", stuck())}
	for _, kind := range []int{0, -1, 5, 6, 257, 1<<32 + 1, 1<<32 + 2, -1 << 63, impl.ExCon, impl.ExCall, impl.ExStuck} {
		for _, name := range []string{"", "x", "X", "\xff", "much too long"} {
			whole := impl.Expr{Kind: kind, Name: name, Args: []impl.Expr{x, con("C", x)}}
			leaf := impl.Expr{Kind: kind, Name: name}
			checkApplied(t, leaf, list, leaf)
			checkApplied(t, whole, list, impl.Expr{Kind: kind, Name: name, Args: []impl.Expr{z, con("C", z)}})
			checkApplied(t, con("C", x, variable("y")), []impl.Binding{binding("y", whole), binding("x", leaf)}, con("C", leaf, whole))
			for _, e := range []impl.Expr{leaf, whole, x, z, {Kind: kind + 1, Name: name}, {Kind: kind, Name: name + "1"}, {Kind: kind, Name: name, Args: []impl.Expr{z, con("C", z)}}, {Kind: kind, Name: name, Args: []impl.Expr{z, con("C", x)}}} {
				for _, part := range []impl.Expr{leaf, whole} {
					checkMatch(t, part, e)
					checkMatch(t, e, part)
					checkMatch(t, con("C", x, part), con("C", z, e))
				}
			}
		}
	}
	for _, name := range []string{"", "X", "\xff", "much too long", "x\x00"} {
		checkMatch(t, variable(name), z)
		checkMatch(t, con("C", variable(name), x, variable(name)), con("C", x, variable(name), x))
		checkMatch(t, con("C", variable(name), x), con("C", x, variable("x ")))
		checkMatch(t, con("C", x, x), con("C", variable(name), variable(name+"1")))
	}
}

func TestSmallMatches(t *testing.T) {
	right := expressionsOver(4, variable("x"), variable("y"), con("N"))
	if found := matchesIn(t, right, right); found < 1000 {
		t.Errorf("only %d matches", found)
	}
	all := smallExpressions(3)
	few := smallExpressions(2)
	if found := matchesIn(t, few, all) + matchesIn(t, all, few); found < 4000 {
		t.Errorf("only %d matches with wrong forms", found)
	}
}

func matchesIn(t *testing.T, patterns []impl.Expr, all []impl.Expr) int {
	t.Helper()
	found := 0
	for _, pattern := range patterns {
		for _, e := range all {
			if checkMatch(t, pattern, e) {
				found++
			}
		}
	}
	return found
}

func TestSmallReplacements(t *testing.T) {
	values := smallExpressions(2)
	for i, e := range smallExpressions(3) {
		a, b := values[i%len(values)], values[i*7%len(values)]
		for _, list := range [][]impl.Binding{
			nil, {binding("x", a)}, {binding("y", b)}, {binding("x", a), binding("y", b)}, {binding("y", a), binding("x", b), binding("y", b)},
			{binding("x", variable("y")), binding("y", variable("x"))}, {binding("f", a), binding("N", b), binding("", a)},
		} {
			checkApplied(t, e, list, meantApplied(e, list))
		}
	}
}

// TestBindingsAreFoundAgain makes expressions out of patterns: the match has to
// find what was put in.
func TestBindingsAreFoundAgain(t *testing.T) {
	state := uint32(7)
	for round := range 3000 {
		pattern := irregular(1+round%30, &state)
		list := []impl.Binding{binding("x", irregular(1+round%11, &state)), binding("y", irregular(1+round%7, &state))}
		e := impl.ApplyBindings(pattern, list)
		if textOf(e) != textOf(meantApplied(pattern, list)) {
			t.Fatalf("ApplyBindings(%s, %s) = %s", textOf(pattern), bindingsText(list), textOf(e))
		}
		var want []impl.Binding
		for _, name := range impl.VarsOf(pattern) {
			want = append(want, list[meantBinding(list, name)])
		}
		got, ok := impl.MatchExpr(pattern, e)
		checkList(t, "MatchExpr("+textOf(pattern)+", "+textOf(e)+")", got, ok, want, true)
		checkMatch(t, pattern, e)
		nodes := nodesIn(&e)
		*nodes[round%len(nodes)] = irregular(1+round%3, &state)
		checkMatch(t, pattern, e)
		checkMatch(t, e, pattern)
	}
}

func checkEqualBindings(t *testing.T, a []impl.Binding, b []impl.Binding, want bool) {
	t.Helper()
	if impl.EqualBindings(a, b) != want || impl.EqualBindings(b, a) != want {
		t.Errorf("EqualBindings of %.500s and %.500s is not %v", bindingsText(a), bindingsText(b), want)
	}
}

func TestEqualBindings(t *testing.T) {
	texts := []string{
		"", "x=N", "y=N", "x=Z", "x=n()", "x=x", "x=!", "x=S(N)", "x=S(Z)", "x=N x=N", "x=N y=N", "y=N x=N", "x=N y=Z", "x=Z y=N", "x=N y=N z=N", "x=N z=N y=N", "xy=N", "x=S(N) y=N", "x=S(Z) y=N",
	}
	for i, a := range texts {
		for j, b := range texts {
			checkEqualBindings(t, bindingsOf(t, a), bindingsOf(t, b), i == j)
		}
	}
	checkEqualBindings(t, nil, []impl.Binding{}, true)
	checkEqualBindings(t, nil, []impl.Binding{{}}, false)
	checkEqualBindings(t, []impl.Binding{{}}, []impl.Binding{{}}, true)
	checkEqualBindings(t, []impl.Binding{{}}, []impl.Binding{{}, {}}, false)
	checkEqualBindings(t, []impl.Binding{binding("x", con("N"))}, []impl.Binding{binding("x", con("N", make([]impl.Expr, 0, 3)...))}, true)
}

func TestEqualBindingsInEveryFieldOfEveryPart(t *testing.T) {
	list := func() []impl.Binding {
		return []impl.Binding{
			binding("x", call("app", variable("x"), con("C", stuck(), con("N")))), binding("\xff", applied("x", impl.Expr{Kind: 9})), binding("", con("S", con("N"))),
		}
	}
	for at := range list() {
		changed := list()
		changed[at].Name += "1"
		checkEqualBindings(t, list(), changed, false)
		checkEqualBindings(t, list(), list()[:at], false)
		for node := range nodesIn(&changed[at].Value) {
			for _, change := range changesOfOneField {
				changed := list()
				change(nodesIn(&changed[at].Value)[node])
				checkEqualBindings(t, list(), changed, bindingsText(list()) == bindingsText(changed))
			}
		}
	}
}

// The checks whose names begin with checkBig are for expressions of which no
// text can be made.

func checkBigEqual(t *testing.T, what string, a impl.Expr, b impl.Expr) {
	t.Helper()
	if !impl.EqualExpr(a, b) {
		t.Errorf("%s gives another expression", what)
	}
}

func checkBigList(t *testing.T, what string, list []impl.Binding, ok bool, want []impl.Binding) {
	t.Helper()
	if !ok || !impl.EqualBindings(list, want) {
		t.Errorf("%s gives %d bindings and %v, want %d", what, len(list), ok, len(want))
	}
}

func checkBigMatch(t *testing.T, pattern impl.Expr, e impl.Expr, want []impl.Binding) {
	t.Helper()
	list, ok := impl.MatchExpr(pattern, e)
	checkBigList(t, "MatchExpr", list, ok, want)
	checkBigEqual(t, "ApplyBindings with what was found", impl.ApplyBindings(pattern, list), e)
	checkBigEqual(t, "ApplyBindings", impl.ApplyBindings(pattern, want), e)
	if !impl.IsInstance(e, pattern) {
		t.Error("IsInstance is false")
	}
}

func checkBigRenaming(t *testing.T, a impl.Expr, b impl.Expr, want []impl.Binding) {
	t.Helper()
	checkBigMatch(t, a, b, want)
	list, ok := impl.RenamingOf(a, b)
	checkBigList(t, "RenamingOf", list, ok, want)
}

func checkNoBigMatch(t *testing.T, pattern impl.Expr, e impl.Expr) {
	t.Helper()
	list, ok := impl.MatchExpr(pattern, e)
	if ok || list != nil || impl.IsInstance(e, pattern) {
		t.Errorf("MatchExpr gives %d bindings and %v", len(list), ok)
	}
	checkNoBigRenaming(t, pattern, e)
	checkNoBigRenaming(t, e, pattern)
}

func checkNoBigRenaming(t *testing.T, a impl.Expr, b impl.Expr) {
	t.Helper()
	if list, ok := impl.RenamingOf(a, b); ok || list != nil {
		t.Errorf("RenamingOf gives %d bindings and %v", len(list), ok)
	}
}

func TestSubstitutionsAtTheLimits(t *testing.T) {
	x := variable("x")
	for _, size := range []int{sizeLimit - 1, sizeLimit, sizeLimit + 1, 10 * sizeLimit, 5000} {
		bush := bushOf(size)
		checkMatch(t, x, bush)
		checkMatch(t, bush, bush)
		checkMatch(t, con("C", x, x), con("C", bush, bush))
		checkMatch(t, con("C", x, bush, variable("y")), con("C", bush, bush, x))
		smaller := cloneExpr(bush)
		nodes := nodesIn(&smaller)
		*nodes[len(nodes)-1] = con("M")
		checkMatch(t, con("C", x, x), con("C", bush, smaller))
		checkMatch(t, bush, smaller)
	}
	for _, depth := range []int{depthLimit - 1, depthLimit, depthLimit + 1, 10 * depthLimit} {
		checkMatch(t, tower(depth, x), tower(depth, con("N")))
		checkMatch(t, tower(depth, x), tower(depth+2, con("N")))
		checkMatch(t, tower(depth+2, x), tower(depth, con("N")))
		checkMatch(t, tower(depth, x), tower(depth, variable("y")))
		checkApplied(t, tower(depth, x), []impl.Binding{binding("x", tower(depth, x))}, meantApplied(tower(depth, x), []impl.Binding{binding("x", tower(depth, x))}))
	}
	for _, args := range []int{argsLimit, argsLimit + 1, 100} {
		checkMatch(t, con("C", copies(args, x)...), con("C", copies(args, con("N"))...))
		checkMatch(t, con("C", copies(args, x)...), con("C", append(copies(args-1, con("N")), con("Z"))...))
	}
}

func TestSubstitutionsInVeryDeepExpressions(t *testing.T) {
	const depth = 100000
	x, y, n := variable("x"), variable("y"), con("N")
	deep := tower(depth, n)
	checkBigMatch(t, tower(depth, x), deep, []impl.Binding{binding("x", n)})
	checkBigMatch(t, con("C", x, x, tower(depth, y)), con("C", deep, tower(depth, n), tower(depth, x)), []impl.Binding{binding("x", deep), binding("y", x)})
	checkNoBigMatch(t, tower(depth, x), tower(depth-1, n))
	checkNoBigMatch(t, con("C", x, x), con("C", deep, tower(depth, con("Z"))))
	checkBigRenaming(t, tower(depth, x), tower(depth, y), []impl.Binding{binding("x", y)})
	value, ok := impl.FindBinding([]impl.Binding{binding("x", deep)}, "x")
	if checkBigEqual(t, "FindBinding", value, deep); !ok {
		t.Error("FindBinding does not find a very deep Value")
	}
}

func TestSubstitutionsInVeryWideExpressions(t *testing.T) {
	const width = 60000
	var different, same, values, equal []impl.Expr
	var list, constant, renaming []impl.Binding
	for i := range width {
		name := "v" + strconv.Itoa(i*7%(width+1))
		value := con("S", con("N"+strconv.Itoa(i)))
		different, same = append(different, variable(name)), append(same, variable("x"))
		values, equal = append(values, value), append(equal, con("S", con("N")))
		list, constant = append(list, binding(name, value)), append(constant, binding(name, equal[i]))
		renaming = append(renaming, binding(name, variable(name+"x")))
	}
	pattern := con("C", different...)
	checkBigMatch(t, pattern, con("C", values...), list)
	checkBigMatch(t, pattern, con("C", equal...), constant)
	checkNoBigRenaming(t, pattern, con("C", equal...))
	checkBigMatch(t, con("C", same...), con("C", equal...), []impl.Binding{binding("x", con("S", con("N")))})
	checkNoBigMatch(t, con("C", same...), con("C", values...))
	equal[width-1] = con("S", con("M"))
	checkNoBigMatch(t, con("C", same...), con("C", equal...))
	if !impl.EqualBindings(list, slices.Clone(list)) || impl.EqualBindings(list, constant) || impl.EqualBindings(constant[1:], constant[:width-1]) {
		t.Error("EqualBindings of very long lists")
	}
	renamed := impl.ApplyBindings(pattern, renaming)
	checkBigRenaming(t, pattern, renamed, renaming)
	renamed.Args[width-1].Name = renamed.Args[0].Name
	checkNoBigRenaming(t, pattern, renamed)
}

// dense is an expression of so many levels, on each of which both Args are what
// is below it, so that it has 2 to the power of levels leaves.
func dense(levels int, leaf impl.Expr) impl.Expr {
	for range levels {
		leaf = con("C", leaf, leaf)
	}
	return leaf
}

// denseBut is dense with another one as its last leaf.
func denseBut(levels int, leaf impl.Expr, last impl.Expr) impl.Expr {
	for range levels {
		leaf, last = con("C", leaf, leaf), con("C", leaf, last)
	}
	return last
}

func TestSubstitutionsInPartsThatAreShared(t *testing.T) {
	x, y, n, m := variable("x"), variable("y"), con("N"), con("M")
	for _, levels := range []int{1, 2, 5, 10, 11, 60, 1000} {
		e, other := dense(levels, n), denseBut(levels, n, m)
		pattern, both := dense(levels, x), denseBut(levels, x, y)
		checkBigMatch(t, pattern, e, []impl.Binding{binding("x", n)})
		checkBigMatch(t, pattern, denseBut(levels, n, n), []impl.Binding{binding("x", n)})
		checkBigMatch(t, both, other, []impl.Binding{binding("x", n), binding("y", m)})
		checkBigMatch(t, both, e, []impl.Binding{binding("x", n), binding("y", n)})
		checkBigMatch(t, x, e, []impl.Binding{binding("x", e)})
		checkBigMatch(t, con("C", x, y, x), con("C", e, x, dense(levels, n)), []impl.Binding{binding("x", e), binding("y", x)})
		checkBigMatch(t, con("C", x, pattern), con("C", e, dense(2*levels, n)), []impl.Binding{binding("x", e)})
		checkNoBigMatch(t, pattern, other)
		checkNoBigMatch(t, con("C", pattern, pattern), con("C", e, dense(levels, m)))
		checkNoBigMatch(t, con("C", x, x), con("C", e, other))
		checkNoBigMatch(t, e, other)
		checkNoBigMatch(t, dense(levels+1, n), e)
		checkBigRenaming(t, pattern, dense(levels, y), []impl.Binding{binding("x", y)})
		checkBigRenaming(t, both, denseBut(levels, y, x), []impl.Binding{binding("x", y), binding("y", x)})
		checkNoBigRenaming(t, both, pattern)
		checkNoBigRenaming(t, pattern, both)
		list := []impl.Binding{binding("x", e), binding("y", other)}
		checkBigEqual(t, "ApplyBindings", impl.ApplyBindings(pattern, list), dense(2*levels, n))
		checkBigEqual(t, "ApplyBindings", impl.ApplyBindings(con("C", y, applied("z", pattern), x, pattern), list), con("C", other, applied("z", pattern), e, dense(2*levels, n)))
	}
}

// TestSubstitutionsInManySharedParts has a variable at many places, at each of
// which another expression with shared parts stands.
func TestSubstitutionsInManySharedParts(t *testing.T) {
	const count = 300
	var parts []impl.Expr
	var list []impl.Binding
	for i := range count {
		parts = append(parts, dense(100, con("N")))
		list = append(list, binding("x"+strconv.Itoa(i), parts[i]))
	}
	names := variables(count, "y")
	var different []impl.Expr
	for i, name := range names {
		different = append(different, variable(name))
		list[i].Name = name
	}
	checkBigMatch(t, con("C", different...), con("C", parts...), list)
	pattern := con("C", copies(count, variable("x"))...)
	checkBigMatch(t, pattern, con("C", parts...), []impl.Binding{binding("x", parts[0])})
	if !impl.EqualBindings(list, slices.Clone(list)) {
		t.Error("EqualBindings of equal lists is false")
	}
	parts[count-1] = denseBut(100, con("N"), con("M"))
	checkNoBigMatch(t, pattern, con("C", parts...))
	if changed := slices.Concat(list[:count-1], []impl.Binding{binding(list[count-1].Name, parts[count-1])}); impl.EqualBindings(list, changed) {
		t.Error("EqualBindings of lists that differ is true")
	}
}

// endlessList is C(head,C(head,..)) without an end.
func endlessList(head impl.Expr) impl.Expr {
	args := []impl.Expr{head, con("C")}
	args[1].Args = args
	return con("C", args...)
}

// ring is S(S(..)) without an end, made of so many nodes.
func ring(count int) impl.Expr {
	nodes := make([]impl.Expr, count)
	for i := range nodes {
		next := (i + 1) % count
		nodes[i] = con("S", nodes[next:next+1]...)
	}
	return nodes[0]
}

func TestSubstitutionsInEndlessExpressions(t *testing.T) {
	x, y, z, n := variable("x"), variable("y"), variable("z"), con("N")
	e := endlessList(n)
	checkBigMatch(t, endlessList(x), e, []impl.Binding{binding("x", n)})
	checkBigMatch(t, x, e, []impl.Binding{binding("x", e)})
	checkBigMatch(t, exprOf(t, "C(x,C(y,z))"), e, []impl.Binding{binding("x", n), binding("y", n), binding("z", e)})
	checkBigMatch(t, con("D", z, endlessList(x), z), con("D", e, endlessList(e), con("C", n, e)), []impl.Binding{binding("z", e), binding("x", e)})
	checkNoBigMatch(t, endlessList(x), con("C", con("M"), e))
	checkNoBigMatch(t, endlessList(x), con("C", n, con("C", n, n)))
	checkNoBigMatch(t, con("D", x, x), con("D", e, con("C", n, endlessList(con("M")))))
	checkBigRenaming(t, endlessList(x), endlessList(y), []impl.Binding{binding("x", y)})
	checkBigRenaming(t, e, con("C", n, endlessList(n)), nil)
	checkBigEqual(t, "ApplyBindings", impl.ApplyBindings(endlessList(x), []impl.Binding{binding("x", endlessList(x))}), endlessList(endlessList(x)))
	checkBigEqual(t, "ApplyBindings", impl.ApplyBindings(endlessList(applied("y", x)), []impl.Binding{binding("x", n)}), endlessList(applied("y", x)))
	// The rings have as many pairs of parts as the product of their sizes.
	checkBigMatch(t, con("D", x, x), con("D", ring(30011), ring(30013)), []impl.Binding{binding("x", ring(1))})
	checkBigMatch(t, ring(30011), ring(30013), nil)
	wide := con("C", make([]impl.Expr, 3000)...)
	for i := range wide.Args {
		wide.Args[i] = con("C", wide.Args...)
	}
	checkBigMatch(t, con("D", x, wide, x), con("D", wide, con("C", wide.Args...), wide), []impl.Binding{binding("x", wide)})
}

// memoryOf returns where the Args of an expression lie, also those in the
// capacity behind them.
func memoryOf(e impl.Expr) []*impl.Expr {
	var list []*impl.Expr
	whole := e.Args[:cap(e.Args)]
	for i := range whole {
		list = append(list, &whole[i])
		list = append(list, memoryOf(whole[i])...)
	}
	return list
}

// memoryIn also changes the Names, which must not show in another list.
func memoryIn(list []impl.Binding) []*impl.Expr {
	var all []*impl.Expr
	for i := range list {
		all = append(all, memoryOf(list[i].Value)...)
		list[i].Name = "changed"
	}
	return all
}

// An owner notes whose memory is where.
type owner map[*impl.Expr]string

func (o owner) mustOwn(t *testing.T, what string, memory []*impl.Expr) {
	t.Helper()
	for _, at := range memory {
		if o[at] != "" {
			t.Errorf("%s shares memory with %s", what, o[at])
			return
		}
		o[at] = what
	}
}

func TestSubstitutionsShareNoMemory(t *testing.T) {
	x, y := variable("x"), variable("y")
	part := con("S", con("S", con("N")), con("Rest"))
	part.Args = part.Args[:1]
	bare := variable("z")
	bare.Args = []impl.Expr{con("Rest"), con("More")}[:0]
	e := con("C", part, part, bare, con("D", part), part)
	list := []impl.Binding{binding("x", e), binding("y", part), binding("x", part), binding("z", bare)}
	o := owner{}
	for _, argument := range []impl.Expr{e, part, bare} {
		for _, at := range memoryOf(argument) {
			o[at] = "an argument"
		}
	}
	for range 2 {
		for _, one := range list {
			value, _ := impl.FindBinding(list, one.Name)
			o.mustOwn(t, "FindBinding of "+one.Name, memoryOf(value))
		}
		for _, pattern := range []impl.Expr{x, y, bare, con("C", x, y, x, y), con("C", x, con("D", x, con("D", x))), applied("x", part), applied("u", part, part), con("C", applied("u", part), y), con("C", variable("u"), bare), e, part} {
			o.mustOwn(t, "ApplyBindings of "+textOf(pattern), memoryOf(impl.ApplyBindings(pattern, list)))
			o.mustOwn(t, "ApplyBindings without bindings of "+textOf(pattern), memoryOf(impl.ApplyBindings(pattern, nil)))
		}
		for _, text := range []string{"x", "C(x,y,z,u,v)", "C(x,x,z,u,x)", "C(x,y,z,D(y),x)", "C(S(x),y,z,D(S(u)),S(S(v)))"} {
			found, ok := impl.MatchExpr(exprOf(t, text), e)
			again, _ := impl.MatchExpr(exprOf(t, text), e)
			if o.mustOwn(t, "MatchExpr of "+text, memoryIn(found)); !ok || bindingsText(found) == bindingsText(again) {
				t.Errorf("%s gives %s and %s", text, bindingsText(found), bindingsText(again))
			}
		}
		renaming, ok := impl.RenamingOf(con("C", x, y, x), con("C", bare, variable("u"), bare))
		again, _ := impl.RenamingOf(con("C", x, y, x), con("C", bare, variable("u"), bare))
		if o.mustOwn(t, "RenamingOf", memoryIn(renaming)); !ok || bindingsText(renaming) == bindingsText(again) {
			t.Errorf("RenamingOf gives %s and %s", bindingsText(renaming), bindingsText(again))
		}
	}
}

// TestLargeResultsShareNoMemory has results that are as large as valid
// expressions with values of the machine can make them.
func TestLargeResultsShareNoMemory(t *testing.T) {
	x, value := variable("x"), bushOf(600)
	e := cloneExpr(bushOf(sizeLimit))
	for _, node := range nodesIn(&e) {
		if len(node.Args) == 0 {
			*node = x
		}
	}
	o := owner{}
	o.mustOwn(t, "an argument", append(memoryOf(e), memoryOf(value)...))
	result := impl.ApplyBindings(e, []impl.Binding{binding("x", value)})
	o.mustOwn(t, "ApplyBindings", memoryOf(result))
	checkBigEqual(t, "ApplyBindings", result, meantApplied(e, []impl.Binding{binding("x", value)}))
	list, _ := impl.MatchExpr(con("C", x, x, variable("y"), e), con("C", value, value, value, result))
	if len(list) != 2 {
		t.Errorf("%d bindings", len(list))
	}
	o.mustOwn(t, "MatchExpr", memoryIn(list))
}

// checkSeparate changes each of the parts, which are equal, and looks whether it
// shows in the next one. The parts are made up of nodes with Args.
func checkSeparate(t *testing.T, what string, parts []impl.Expr) {
	t.Helper()
	for i := range parts {
		at := &parts[i]
		for len(at.Args) > 0 {
			at = &at.Args[len(at.Args)-1]
		}
		if at.Name == "changed" {
			t.Errorf("%s: a change of part %d of %d shows in another part", what, i, len(parts))
			return
		}
		at.Name = "changed"
	}
}

// TestPartsOfLargeResultsAreSeparate has arguments whose parts share nothing, so
// that the parts of the results have no memory in common, however many they are.
func TestPartsOfLargeResultsAreSeparate(t *testing.T) {
	x, y, n := variable("x"), variable("y"), con("N")
	for _, size := range []int{3, 100, 511, 512, 513, 1024, 1500} {
		value := con("L", copies(size, n)...)
		list := []impl.Binding{binding("x", value), binding("y", value)}
		result := impl.ApplyBindings(con("P", copies(size, x)...), list)
		checkBigEqual(t, "ApplyBindings", result, con("P", copies(size, value)...))
		checkSeparate(t, "ApplyBindings", result.Args)
		checkBigEqual(t, "the Value", value, con("L", copies(size, n)...))
		// Two names have the same Value, at different depths.
		result = impl.ApplyBindings(con("C", con("P", copies(size, x)...), con("D", con("P", copies(size, y)...))), list)
		checkSeparate(t, "ApplyBindings with two names", slices.Concat(result.Args[0].Args, result.Args[1].Args[0].Args))
	}
	const depth = 1800
	chain := n
	for range depth {
		chain = con("C", x, chain)
	}
	var parts []impl.Expr
	for e := impl.ApplyBindings(chain, []impl.Binding{binding("x", tower(depth, n))}); e.Name == "C"; e = e.Args[1] {
		parts = append(parts, e.Args[0])
	}
	checkSeparate(t, "ApplyBindings of a deep expression", parts)
}

// TestPartsOfHugeResultsAreSeparate has results of more than 8 million nodes. No
// number of nodes allows what shares nothing in the arguments to share memory in
// the result, whatever else is shared there.
func TestPartsOfHugeResultsAreSeparate(t *testing.T) {
	t.Parallel()
	const size = 2900
	n := con("N")
	value := con("L", copies(size, n)...)
	list := []impl.Binding{binding("x", value), binding("y", value), binding("z", dense(100, n))}
	places := slices.Concat(copies(size/2, variable("x")), copies(size/2, variable("y")))
	result := impl.ApplyBindings(con("C", con("P", places...), dense(100, n), variable("z")), list)
	for _, part := range result.Args[1:] {
		checkBigEqual(t, "ApplyBindings of shared parts", part, dense(100, n))
	}
	found, _ := impl.FindBinding([]impl.Binding{binding("x", result.Args[0])}, "x")
	checkSeparate(t, "ApplyBindings", result.Args[0].Args)
	checkBigEqual(t, "FindBinding", found, con("P", copies(size, value)...))
	checkSeparate(t, "FindBinding", found.Args)
	checkBigEqual(t, "the Value", value, con("L", copies(size, n)...))
}

func TestHugeResultOfInsertingIntoItself(t *testing.T) {
	t.Parallel()
	e := con("P", copies(2900, variable("x"))...)
	result := impl.ApplyBindings(e, []impl.Binding{binding("x", e)})
	checkBigEqual(t, "ApplyBindings", result, con("P", copies(2900, e)...))
	checkSeparate(t, "ApplyBindings", result.Args)
}

// TestPartsOfLargeCopiesAreSeparate has results that are parts of an argument.
func TestPartsOfLargeCopiesAreSeparate(t *testing.T) {
	x, y, n := variable("x"), variable("y"), con("N")
	for _, size := range []int{3, 512, 1500} {
		e := con("P", copies(size, n)...)
		for i := range e.Args {
			e.Args[i] = con("L", copies(size, n)...)
		}
		value, _ := impl.FindBinding([]impl.Binding{binding("x", e)}, "x")
		checkSeparate(t, "FindBinding", value.Args)
		result := impl.ApplyBindings(con("C", applied("z", con("D", x, e)), e), nil)
		checkSeparate(t, "ApplyBindings", slices.Concat(result.Args[0].Args[0].Args[1].Args, result.Args[1].Args))
		list, _ := impl.MatchExpr(con("C", x, con("D", y), x), con("C", e, con("D", con("S", e)), e))
		checkSeparate(t, "MatchExpr", slices.Concat(list[0].Value.Args, list[1].Value.Args[0].Args))
		checkSeparate(t, "an argument", e.Args)
	}
}

// TestPartsOfResultsOfSharedPartsAreSeparate has arguments whose parts share
// memory, but in results for which there is memory without sharing.
func TestPartsOfResultsOfSharedPartsAreSeparate(t *testing.T) {
	x, n := variable("x"), con("N")
	for _, levels := range []int{2, 9, 18} {
		results := []impl.Expr{
			impl.ApplyBindings(dense(levels, x), []impl.Binding{binding("x", con("S", n))}),
			impl.ApplyBindings(dense(levels/2, x), []impl.Binding{binding("x", dense(levels-levels/2, con("S", n)))}),
			impl.ApplyBindings(dense(levels, con("S", n)), nil),
		}
		found, _ := impl.FindBinding([]impl.Binding{binding("x", results[0])}, "x")
		list, _ := impl.MatchExpr(x, dense(levels, con("S", n)))
		for i, result := range append(results, found, list[0].Value) {
			parts := []impl.Expr{result}
			for range levels {
				var below []impl.Expr
				for _, part := range parts {
					below = append(below, part.Args...)
				}
				parts = below
			}
			if len(parts) != 1<<levels {
				t.Fatalf("%d parts on level %d", len(parts), levels)
			}
			checkSeparate(t, "result "+strconv.Itoa(i), parts)
		}
	}
}

// TestManyValuesOfSharedParts has results that no memory could hold without
// sharing, as they have so many values of so many parts.
func TestManyValuesOfSharedParts(t *testing.T) {
	const count = 100000
	x, e := variable("x"), dense(1000, con("N"))
	result := impl.ApplyBindings(con("P", copies(count, x)...), []impl.Binding{binding("x", e)})
	if len(result.Args) != count {
		t.Fatalf("%d values", len(result.Args))
	}
	for _, at := range []int{0, 1, count / 2, count - 1} {
		checkBigEqual(t, "ApplyBindings", result.Args[at], e)
	}
	if changeArgs(result.Args[0]); !impl.EqualExpr(e, dense(1000, con("N"))) {
		t.Error("a change of the result shows in the Value")
	}
}

// TestResultsOfSharedPartsShareNothingWithArguments has results that are too
// large for each part to have memory of its own. All the same, changes of the
// arguments or of another result must not show in them.
func TestResultsOfSharedPartsShareNothingWithArguments(t *testing.T) {
	x, n := variable("x"), con("N")
	e, pattern, instance := dense(100, n), dense(100, x), dense(200, n)
	list := []impl.Binding{binding("x", e)}
	value, _ := impl.FindBinding(list, "x")
	result := impl.ApplyBindings(pattern, list)
	found, _ := impl.MatchExpr(con("C", x, pattern), con("C", e, instance))
	for _, argument := range []impl.Expr{e, pattern, instance} {
		changeArgs(argument)
	}
	checkBigList(t, "MatchExpr", found, true, []impl.Binding{binding("x", dense(100, n))})
	changeArgs(found[0].Value)
	checkBigEqual(t, "FindBinding", value, dense(100, n))
	changeArgs(value)
	checkBigEqual(t, "ApplyBindings", result, dense(200, n))
}

// changeArgs writes over the first Args on each level.
func changeArgs(e impl.Expr) {
	for args := e.Args; len(args) > 0; {
		next := args[0].Args
		clear(args)
		args = next
	}
}

// wholeText shows an expression with what is in the capacity behind its Args.
func wholeText(e impl.Expr) string {
	text := strconv.Itoa(e.Kind) + strconv.Quote(e.Name) + strconv.Itoa(len(e.Args))
	for _, part := range e.Args[:cap(e.Args)] {
		text += " " + wholeText(part)
	}
	return "(" + text + ")"
}

func wholeList(list []impl.Binding) string {
	text := strconv.Itoa(len(list))
	for _, b := range list[:cap(list)] {
		text += " " + strconv.Quote(b.Name) + wholeText(b.Value)
	}
	return text
}

// TestSubstitutionsLeaveArgumentsAlone covers promise 34 for chapter 7.
func TestSubstitutionsLeaveArgumentsAlone(t *testing.T) {
	x, y := variable("x"), variable("y")
	args := []impl.Expr{x, call("f", y), x, con("Rest"), con("More")}
	pattern := con("C", args[:3]...)
	values := []impl.Expr{con("S", y), con("Z"), variable("Rest"), con("More")}
	part := con("D", values[:2]...)
	e := con("C", part, call("f", con("N", values[:1]...)), part)
	backing := []impl.Binding{binding("x", part), binding("y", y), binding("x", e), binding("rest", e), {}}
	list := backing[:3]
	before := wholeText(pattern) + wholeText(e) + wholeList(list)
	for range 2 {
		checkMatch(t, pattern, e)
		checkMatch(t, e, pattern)
		checkMatch(t, pattern, pattern)
		checkApplied(t, pattern, list, con("C", part, call("f", y), part))
		checkApplied(t, e, list, con("C", con("D", con("S", y), con("Z")), call("f", con("N", con("S", y))), con("D", con("S", y), con("Z"))))
		for _, name := range []string{"x", "y", "rest", ""} {
			impl.FindBinding(list, name)
		}
		checkEqualBindings(t, list, slices.Clone(list), true)
		checkEqualBindings(t, list, backing, false)
		if after := wholeText(pattern) + wholeText(e) + wholeList(list); after != before {
			t.Fatalf("the arguments became %s, before %s", after, before)
		}
	}
}
