package tests

import (
	"math"
	"slices"
	"strconv"
	"testing"
	"time"

	"loop.example/g00584/impl"
)

// A generalMeaning follows the sentences of chapter 10 one by one, as a second
// opinion on what the program returns.
type generalMeaning struct {
	taken []string
	pairs []string
	impl.General
}

func meantGeneral(a impl.Expr, b impl.Expr) impl.General {
	var m generalMeaning
	for _, node := range append(nodesIn(&a), nodesIn(&b)...) {
		if node.Kind == impl.ExVar {
			m.taken = append(m.taken, node.Name)
		}
	}
	m.Term = m.termOf(a, b)
	return m.General
}

func (m *generalMeaning) termOf(a impl.Expr, b impl.Expr) impl.Expr {
	if isMeantVariable(a) && isMeantVariable(b) && a.Name == b.Name {
		return a
	}
	if a.Kind == b.Kind && a.Kind != impl.ExVar && a.Name == b.Name && len(a.Args) == len(b.Args) {
		e := impl.Expr{Kind: a.Kind, Name: a.Name}
		for i := range a.Args {
			e.Args = append(e.Args, m.termOf(a.Args[i], b.Args[i]))
		}
		return e
	}
	return variable(m.nameOf(a, b))
}

func (m *generalMeaning) nameOf(a impl.Expr, b impl.Expr) string {
	pair := textOf(a) + textOf(b)
	if at := slices.Index(m.pairs, pair); at >= 0 {
		return m.First[at].Name
	}
	number := 1
	for slices.Contains(m.taken, "v"+strconv.Itoa(number)) {
		number++
	}
	name := "v" + strconv.Itoa(number)
	m.taken, m.pairs = append(m.taken, name), append(m.pairs, pair)
	m.First, m.Second = append(m.First, binding(name, a)), append(m.Second, binding(name, b))
	return name
}

// generalText shows a generalization in a message, whatever its fields are.
func generalText(g impl.General) string {
	return textOf(g.Term) + " with " + bindingsText(g.First) + " and " + bindingsText(g.Second)
}

// generalOf reads a generalization that is written like "S(v1)", "v1=N", "v1=Z".
func generalOf(t *testing.T, term string, first string, second string) impl.General {
	t.Helper()
	return impl.General{Term: exprOf(t, term), First: bindingsOf(t, first), Second: bindingsOf(t, second)}
}

// exchanged is what a generalization is if its expressions are exchanged.
func exchanged(g impl.General) impl.General {
	return impl.General{Term: g.Term, First: g.Second, Second: g.First}
}

func checkIsGeneral(t *testing.T, e impl.Expr, list []impl.Expr, want bool) {
	t.Helper()
	if got := impl.IsGeneral(e, list); got != want {
		t.Errorf("IsGeneral(%.500s, %.500s) is %v", textOf(e), textOf(con("", list...)), got)
	}
}

func checkEqualGenerals(t *testing.T, a impl.General, b impl.General, want bool) {
	t.Helper()
	if impl.EqualGeneral(a, b) != want || impl.EqualGeneral(b, a) != want {
		t.Errorf("EqualGeneral of %.500s; %.500s is not %v", generalText(a), generalText(b), want)
	}
}

// checkGeneralIs checks the generalization of two expressions in either order.
func checkGeneralIs(t *testing.T, a impl.Expr, b impl.Expr, want impl.General) {
	t.Helper()
	if got := impl.Generalize(a, b); generalText(got) != generalText(want) {
		t.Errorf("Generalize(%.500s, %.500s) = %.1000s, want %.1000s", textOf(a), textOf(b), generalText(got), generalText(want))
	}
	if got := impl.Generalize(b, a); generalText(got) != generalText(exchanged(want)) {
		t.Errorf("Generalize(%.500s, %.500s) = %.1000s, want %.1000s", textOf(b), textOf(a), generalText(got), generalText(exchanged(want)))
	}
}

// checkGeneral is promise 10 for two expressions, but for what needs others. It
// returns their generalization.
func checkGeneral(t *testing.T, a impl.Expr, b impl.Expr) impl.General {
	t.Helper()
	g := impl.Generalize(a, b)
	checkGeneralIs(t, a, b, meantGeneral(a, b))
	checkApplied(t, g.Term, g.First, a)
	checkApplied(t, g.Term, g.Second, b)
	checkIsGeneral(t, g.Term, []impl.Expr{a, b}, true)
	checkIsGeneral(t, g.Term, []impl.Expr{b, g.Term, a}, true)
	checkNewVariables(t, a, b, g)
	checkEqualGenerals(t, g, impl.Generalize(cloneExpr(a), cloneExpr(b)), true)
	return g
}

// checkNewVariables checks that there are bindings for the variables of the Term
// that are new, in the order in which they occur, and none for those that are
// kept. No two bindings have the same pair of Values.
func checkNewVariables(t *testing.T, a impl.Expr, b impl.Expr, g impl.General) {
	t.Helper()
	old := impl.UniteNames(impl.VarsOf(a), impl.VarsOf(b))
	var want, got, pairs []string
	for _, name := range impl.VarsOf(g.Term) {
		if !slices.Contains(old, name) {
			want = append(want, name)
		}
	}
	for i, one := range g.First {
		got = append(got, one.Name)
		pairs = append(pairs, textOf(one.Value)+textOf(g.Second[i].Value))
		if one.Name != g.Second[i].Name {
			t.Errorf("binding %d has the names %q and %q", i, one.Name, g.Second[i].Name)
		}
	}
	if !slices.Equal(got, want) || !impl.AllDistinct(pairs) {
		t.Errorf("%s and %s: %s", textOf(a), textOf(b), generalText(g))
	}
}

// checkLeast checks that the Term is an instance of what both expressions are
// instances of. It returns how many of these there are.
func checkLeast(t *testing.T, term impl.Expr, a impl.Expr, b impl.Expr, others []impl.Expr) int {
	t.Helper()
	found := 0
	for _, other := range others {
		if impl.IsGeneral(other, []impl.Expr{a, b}) {
			found++
			if !impl.IsInstance(term, other) {
				t.Errorf("%s is no instance of %s, though %s and %s are", textOf(term), textOf(other), textOf(a), textOf(b))
			}
		}
	}
	return found
}

// A generalCase is written as generalOf reads it.
type generalCase struct{ a, b, term, first, second string }

func checkGenerals(t *testing.T, cases []generalCase) {
	t.Helper()
	for _, c := range cases {
		a, b := exprOf(t, c.a), exprOf(t, c.b)
		checkGeneralIs(t, a, b, generalOf(t, c.term, c.first, c.second))
		checkGeneral(t, a, b)
	}
}

func TestGeneralizations(t *testing.T) {
	checkGenerals(t, []generalCase{
		// An expression and itself.
		{"x", "x", "x", "", ""}, {"N", "N", "N", "", ""}, {"!", "!", "!", "", ""}, {"f()", "f()", "f()", "", ""}, {"v1", "v1", "v1", "", ""}, {"app(x,C(S(N),f(!,x)))", "app(x,C(S(N),f(!,x)))", "app(x,C(S(N),f(!,x)))", "", ""},
		// Without Args.
		{"x", "y", "v1", "v1=x", "v1=y"}, {"x", "N", "v1", "v1=x", "v1=N"}, {"N", "M", "v1", "v1=N", "v1=M"}, {"N", "!", "v1", "v1=N", "v1=!"}, {"x", "!", "v1", "v1=x", "v1=!"}, {"f()", "g()", "v1", "v1=f()", "v1=g()"},
		{"f()", "f", "v1", "v1=f()", "v1=f"}, {"f()", "!", "v1", "v1=f()", "v1=!"}, {"n()", "N", "v1", "v1=n()", "v1=N"}, {"N", "Nn", "v1", "v1=N", "v1=Nn"}, {"x", "x1", "v1", "v1=x", "v1=x1"},
		// Variables that are kept, and such that are not.
		{"S(x)", "S(x)", "S(x)", "", ""}, {"S(x)", "S(y)", "S(v1)", "v1=x", "v1=y"}, {"C(x,y)", "C(x,y)", "C(x,y)", "", ""}, {"C(x,y)", "C(x,z)", "C(x,v1)", "v1=y", "v1=z"}, {"C(x,y)", "C(z,y)", "C(v1,y)", "v1=x", "v1=z"},
		{"C(x,x)", "C(x,y)", "C(x,v1)", "v1=x", "v1=y"}, {"C(x,x)", "C(y,x)", "C(v1,x)", "v1=x", "v1=y"}, {"C(x,S(x))", "C(x,x)", "C(x,v1)", "v1=S(x)", "v1=x"}, {"f(x,y,x,y)", "f(x,x,x,y)", "f(x,v1,x,y)", "v1=y", "v1=x"},
		{"C(x,C(y,N))", "C(x,C(y,Z))", "C(x,C(y,v1))", "v1=N", "v1=Z"}, {"C(x,C(y,N))", "C(y,C(x,N))", "C(v1,C(v2,N))", "v1=x v2=y", "v1=y v2=x"}, {"x", "S(x)", "v1", "v1=x", "v1=S(x)"}, {"f(x)", "f(f(x))", "f(v1)", "v1=x", "v1=f(x)"},
		// Other names, Kinds and numbers of Args.
		{"S(N)", "T(N)", "v1", "v1=S(N)", "v1=T(N)"}, {"f(x)", "g(x)", "v1", "v1=f(x)", "v1=g(x)"}, {"f(x)", "S(x)", "v1", "v1=f(x)", "v1=S(x)"}, {"f(x)", "f(x,x)", "v1", "v1=f(x)", "v1=f(x,x)"}, {"f(x)", "f()", "v1", "v1=f(x)", "v1=f()"},
		{"N", "N(N)", "v1", "v1=N", "v1=N(N)"}, {"N(x,y)", "N(x)", "v1", "v1=N(x,y)", "v1=N(x)"}, {"N(x,y)", "N(x,y,z)", "v1", "v1=N(x,y)", "v1=N(x,y,z)"}, {"f(x)", "!", "v1", "v1=f(x)", "v1=!"}, {"f(x)", "x", "v1", "v1=f(x)", "v1=x"},
		{"C(S(x),y)", "C(T(x),y)", "C(v1,y)", "v1=S(x)", "v1=T(x)"}, {"C(S(x),y)", "C(S(x,x),y)", "C(v1,y)", "v1=S(x)", "v1=S(x,x)"}, {"C(!,N)", "C(!,!)", "C(!,v1)", "v1=N", "v1=!"}, {"f(!,N)", "f(N,!)", "f(v1,v2)", "v1=! v2=N", "v1=N v2=!"},
		// What differs further inside.
		{"S(S(N))", "S(S(Z))", "S(S(v1))", "v1=N", "v1=Z"}, {"S(S(N))", "S(N)", "S(v1)", "v1=S(N)", "v1=N"}, {"S(S(S(x)))", "S(S(y))", "S(S(v1))", "v1=S(x)", "v1=y"}, {"app(app(x,y),z)", "app(x,y)", "app(v1,v2)", "v1=app(x,y) v2=z", "v1=x v2=y"},
		{"app(app(x,y),z)", "app(app(z,y),x)", "app(app(v1,y),v2)", "v1=x v2=z", "v1=z v2=x"}, {"len(C(x,N))", "len(app(x,N))", "len(v1)", "v1=C(x,N)", "v1=app(x,N)"}, {"C(C(A,B),C(D,E))", "C(C(A,D),C(B,E))", "C(C(A,v1),C(v2,E))", "v1=B v2=D", "v1=D v2=B"},
		{"P(A,B,D,E,F)", "P(A,A,D,D,F)", "P(A,v1,D,v2,F)", "v1=B v2=E", "v1=A v2=D"}, {"add(S(x),y)", "add(x,S(y))", "add(v1,v2)", "v1=S(x) v2=y", "v1=x v2=S(y)"}, {"rev(x,N)", "rev(t,C(h,N))", "rev(v1,v2)", "v1=x v2=N", "v1=t v2=C(h,N)"},
	})
}

func TestPairsThatAreGeneralizedAgain(t *testing.T) {
	checkGenerals(t, []generalCase{
		// The same pair.
		{"app(N,S(N))", "app(Z,S(Z))", "app(v1,S(v1))", "v1=N", "v1=Z"}, {"C(N,N)", "C(Z,Z)", "C(v1,v1)", "v1=N", "v1=Z"}, {"C(x,x)", "C(y,y)", "C(v1,v1)", "v1=x", "v1=y"}, {"P(N,N,N,N,N)", "P(x,x,x,x,x)", "P(v1,v1,v1,v1,v1)", "v1=N", "v1=x"},
		{"C(S(x),S(x))", "C(f(N,y),f(N,y))", "C(v1,v1)", "v1=S(x)", "v1=f(N,y)"}, {"C(S(x),D(y,S(x)))", "C(!,D(y,!))", "C(v1,D(y,v1))", "v1=S(x)", "v1=!"}, {"C(D(A,B),D(A,B))", "C(E(B,A),E(B,A))", "C(v1,v1)", "v1=D(A,B)", "v1=E(B,A)"},
		{"f(A,B,A,B)", "f(B,D,B,D)", "f(v1,v2,v1,v2)", "v1=A v2=B", "v1=B v2=D"}, {"f(A,B,B,A)", "f(B,D,D,B)", "f(v1,v2,v2,v1)", "v1=A v2=B", "v1=B v2=D"}, {"f(A,C(A,S(A)),A)", "f(x,C(x,S(x)),x)", "f(v1,C(v1,S(v1)),v1)", "v1=A", "v1=x"},
		{"f(S(N),N,S(N))", "f(S(Z),Z,S(Z))", "f(S(v1),v1,S(v1))", "v1=N", "v1=Z"}, {"C(S(S(A)),C(S(B),B))", "C(T(A),C(T(B),B))", "C(v1,C(v2,B))", "v1=S(S(A)) v2=S(B)", "v1=T(A) v2=T(B)"},
		// The pair and its parts are different pairs.
		{"f(S(A),A)", "f(T(B),B)", "f(v1,v2)", "v1=S(A) v2=A", "v1=T(B) v2=B"}, {"f(A,S(A))", "f(B,T(B))", "f(v1,v2)", "v1=A v2=S(A)", "v1=B v2=T(B)"}, {"f(x,S(x))", "f(S(x),x)", "f(v1,v2)", "v1=x v2=S(x)", "v1=S(x) v2=x"},
		// Pairs that are exchanged.
		{"C(A,B)", "C(B,A)", "C(v1,v2)", "v1=A v2=B", "v1=B v2=A"}, {"C(x,y)", "C(y,x)", "C(v1,v2)", "v1=x v2=y", "v1=y v2=x"}, {"f(A,B,A,B)", "f(B,A,B,A)", "f(v1,v2,v1,v2)", "v1=A v2=B", "v1=B v2=A"},
		{"f(x,y,z)", "f(y,z,x)", "f(v1,v2,v3)", "v1=x v2=y v3=z", "v1=y v2=z v3=x"}, {"C(S(A),T(A))", "C(T(A),S(A))", "C(v1,v2)", "v1=S(A) v2=T(A)", "v1=T(A) v2=S(A)"}, {"f(N,!,!)", "f(!,N,!)", "f(v1,v2,!)", "v1=N v2=!", "v1=! v2=N"},
		// Pairs of which only one part is equal.
		{"C(A,A)", "C(B,D)", "C(v1,v2)", "v1=A v2=A", "v1=B v2=D"}, {"C(B,D)", "C(A,A)", "C(v1,v2)", "v1=B v2=D", "v1=A v2=A"}, {"C(x,x)", "C(N,Z)", "C(v1,v2)", "v1=x v2=x", "v1=N v2=Z"}, {"f(A,A,A)", "f(B,D,B)", "f(v1,v2,v1)", "v1=A v2=A", "v1=B v2=D"},
		{"C(A,A)", "C(A,B)", "C(A,v1)", "v1=A", "v1=B"}, {"f(A,A,A)", "f(B,A,B)", "f(v1,A,v1)", "v1=A", "v1=B"}, {"C(S(A),S(A))", "C(T(A),T(B))", "C(v1,v2)", "v1=S(A) v2=S(A)", "v1=T(A) v2=T(B)"}, {"C(S(A),S(B))", "C(T(A),T(A))", "C(v1,v2)", "v1=S(A) v2=S(B)", "v1=T(A) v2=T(A)"},
		{"C(S(x),S(y))", "C(N,N)", "C(v1,v2)", "v1=S(x) v2=S(y)", "v1=N v2=N"}, {"C(f(x),f(x,x))", "C(N,N)", "C(v1,v2)", "v1=f(x) v2=f(x,x)", "v1=N v2=N"}, {"C(f(S(A),B),f(A,S(B)))", "C(N,N)", "C(v1,v2)", "v1=f(S(A),B) v2=f(A,S(B))", "v1=N v2=N"},
		{"C(n(),N)", "C(!,!)", "C(v1,v2)", "v1=n() v2=N", "v1=! v2=!"}, {"C(x(),x)", "C(!,!)", "C(v1,v2)", "v1=x() v2=x", "v1=! v2=!"}, {"C(D(N,D(N,N)),D(D(N,N),N))", "C(Z,Z)", "C(v1,v2)", "v1=D(N,D(N,N)) v2=D(D(N,N),N)", "v1=Z v2=Z"},
		{"C(D(A,B,E),D(A,E,B))", "C(Z,Z)", "C(v1,v2)", "v1=D(A,B,E) v2=D(A,E,B)", "v1=Z v2=Z"}, {"C(D(A,S(A)),D(S(A),A))", "C(Z,Z)", "C(v1,v2)", "v1=D(A,S(A)) v2=D(S(A),A)", "v1=Z v2=Z"},
	})
}

func TestNamesOfNewVariables(t *testing.T) {
	checkGenerals(t, []generalCase{
		{"f(x,v1)", "f(Z,v1)", "f(v2,v1)", "v2=x", "v2=Z"}, {"f(x,v1)", "f(Z,N)", "f(v2,v3)", "v2=x v3=v1", "v2=Z v3=N"}, {"f(x,N)", "f(Z,v1)", "f(v2,v3)", "v2=x v3=N", "v2=Z v3=v1"}, {"v1", "N", "v2", "v2=v1", "v2=N"}, {"N", "v1", "v2", "v2=N", "v2=v1"},
		{"v1", "v2", "v3", "v3=v1", "v3=v2"}, {"v2", "v3", "v1", "v1=v2", "v1=v3"}, {"v2", "N", "v1", "v1=v2", "v1=N"}, {"v", "N", "v1", "v1=v", "v1=N"}, {"v0", "v01", "v1", "v1=v0", "v1=v01"}, {"v11", "v10", "v1", "v1=v11", "v1=v10"},
		{"P(A,B,D,v2,v4)", "P(N,N,N,v2,v4)", "P(v1,v3,v5,v2,v4)", "v1=A v3=B v5=D", "v1=N v3=N v5=N"}, {"P(A,v1,B,v3,D)", "P(N,v1,N,v3,N)", "P(v2,v1,v4,v3,v5)", "v2=A v4=B v5=D", "v2=N v4=N v5=N"}, {"P(A,B,D,v1,v2)", "P(N,N,N,v3,v4)", "P(v5,v6,v7,v8,v9)", "v5=A v6=B v7=D v8=v1 v9=v2", "v5=N v6=N v7=N v8=v3 v9=v4"},
		{"C(S(v1),x)", "C(N,y)", "C(v2,v3)", "v2=S(v1) v3=x", "v2=N v3=y"}, {"C(x,N)", "C(y,f(S(v2)))", "C(v1,v3)", "v1=x v3=N", "v1=y v3=f(S(v2))"}, {"C(v2,v1)", "C(v1,v2)", "C(v3,v4)", "v3=v2 v4=v1", "v3=v1 v4=v2"}, {"C(v1,v1)", "C(v2,v2)", "C(v3,v3)", "v3=v1", "v3=v2"},
		// Names of functions and constructors, and other names of variables.
		{"C(v1(),A)", "C(v1(),B)", "C(v1(),v1)", "v1=A", "v1=B"}, {"v1(A)", "v1(B)", "v1(v1)", "v1=A", "v1=B"}, {"V1(A)", "V1(B)", "V1(v1)", "v1=A", "v1=B"}, {"C(vv1,A)", "C(vv1,B)", "C(vv1,v1)", "v1=A", "v1=B"}, {"C(w1,A)", "C(u1,B)", "C(v1,v2)", "v1=w1 v2=A", "v1=u1 v2=B"},
		{"P(v001,v1a,v,A,w)", "P(v001,v1a,v,B,w)", "P(v001,v1a,v,v1,w)", "v1=A", "v1=B"},
		// From left to right, from the outside.
		{"C(D(A,B),E)", "C(D(B,A),N)", "C(D(v1,v2),v3)", "v1=A v2=B v3=E", "v1=B v2=A v3=N"}, {"C(E,D(A,B))", "C(N,D(B,A))", "C(v1,D(v2,v3))", "v1=E v2=A v3=B", "v1=N v2=B v3=A"}, {"f(S(S(A)),B,S(S(D)),E)", "f(S(S(N)),N,S(S(N)),N)", "f(S(S(v1)),v2,S(S(v3)),v4)", "v1=A v2=B v3=D v4=E", "v1=N v2=N v3=N v4=N"},
		{"P(E,D,B,A,E)", "P(N,N,N,N,N)", "P(v1,v2,v3,v4,v1)", "v1=E v2=D v3=B v4=A", "v1=N v2=N v3=N v4=N"}, {"P(N,N,N,N,N)", "P(E,D,E,A,D)", "P(v1,v2,v1,v3,v2)", "v1=N v2=N v3=N", "v1=E v2=D v3=A"},
	})
}

// TestManyNewVariables has expressions some of whose variables have names that
// new ones would get.
func TestManyNewVariables(t *testing.T) {
	for taken := range 40 {
		var as, bs []impl.Expr
		for i := range 30 {
			as = append(as, con("A"+strconv.Itoa(i)))
			bs = append(bs, con("B"+strconv.Itoa(i)))
		}
		for i := range taken {
			as = append(as, variable("v"+strconv.Itoa(i*i%41)))
			bs = append(bs, variable("v"+strconv.Itoa(i*3)))
		}
		checkGeneral(t, con("Q", as...), con("Q", bs...))
		slices.Reverse(as)
		slices.Reverse(bs)
		checkGeneral(t, con("Q", as...), con("Q", bs...))
	}
}

func TestGeneralizationsOfOtherForms(t *testing.T) {
	n, x, y := con("N"), variable("x"), variable("y")
	stuckWith := func(name string, args ...impl.Expr) impl.Expr {
		return impl.Expr{Kind: impl.ExStuck, Name: name, Args: args}
	}
	one := func(a impl.Expr, b impl.Expr) impl.General {
		return impl.General{Term: variable("v1"), First: []impl.Binding{binding("v1", a)}, Second: []impl.Binding{binding("v1", b)}}
	}
	// What has another head, or only the Kind of a variable.
	for _, c := range [][2]impl.Expr{
		{applied("x", n), applied("x", n)}, {applied("x", n), applied("x", con("M"))}, {applied("x", n), applied("y", n)}, {applied("x", n), x}, {applied("x", x), x}, {applied("x", x), applied("x", x)}, {applied("x", n), n}, {applied("x", n), con("x", n)}, {applied("x", n), call("x", n)},
		{applied("", n), applied("", n)}, {applied("x", applied("x", x)), applied("x", x)}, {variable("X"), variable("Y")}, {variable(""), variable("\xff")}, {variable("Long name"), variable("long name")}, {variable(""), impl.Expr{}},
		{stuck(), stuckWith("x")}, {stuckWith("x"), stuckWith("y")}, {stuck(), stuckWith("", n)}, {stuckWith("", n), stuckWith("", n, n)}, {stuckWith("N"), n}, {stuckWith("x"), x}, {stuckWith("f", n), call("f", n)},
		{impl.Expr{}, stuck()}, {impl.Expr{}, variable("")}, {impl.Expr{}, con("")}, {impl.Expr{Kind: -7, Name: "x"}, impl.Expr{Kind: -7, Name: "y"}}, {impl.Expr{Kind: 5, Args: []impl.Expr{n}}, impl.Expr{Kind: 6, Args: []impl.Expr{n}}}, {impl.Expr{Kind: impl.ExVar + 1<<32, Name: "x"}, x}, {impl.Expr{Kind: -impl.ExVar, Name: "x"}, x},
		{call("N"), n}, {call("N", x), con("N", x)}, {con("f", x, y), call("f", x, y)}, {con("Q", copies(20, n)...), con("Q", copies(21, n)...)}, {variable("N"), n}, {variable("f"), call("f")}, {variable("x"), con("x")},
	} {
		checkGeneralIs(t, c[0], c[1], one(c[0], c[1]))
		checkGeneral(t, c[0], c[1])
		checkGeneralIs(t, con("C", x, c[0], c[0]), con("C", x, c[1], c[1]), impl.General{Term: con("C", x, variable("v1"), variable("v1")), First: one(c[0], c[1]).First, Second: one(c[0], c[1]).Second})
		checkGeneral(t, call("f", c[0], c[1]), call("f", c[1], c[0]))
		checkGeneral(t, stuckWith("f", x, c[0], c[0]), stuckWith("f", x, c[1], c[0]))
	}
	// What has the same head, though it is not valid.
	for _, head := range []impl.Expr{stuck(), stuckWith("x"), {}, {Kind: -7, Name: "x"}, {Kind: 5}, {Kind: math.MaxInt, Name: "\xff"}, con(""), con("x"), call("F"), con("much too long"), {Kind: impl.ExVar + 1<<32, Name: "x"}} {
		for count := 1; count < 9; count++ {
			with := func(arg impl.Expr) impl.Expr {
				return impl.Expr{Kind: head.Kind, Name: head.Name, Args: copies(count, arg)}
			}
			want := one(n, con("M"))
			want.Term = with(variable("v1"))
			checkGeneralIs(t, with(n), with(con("M")), want)
			checkGeneralIs(t, with(n), with(n), impl.General{Term: with(n)})
			checkGeneralIs(t, with(x), with(x), impl.General{Term: with(x)})
		}
		checkGeneralIs(t, head, head, impl.General{Term: head})
	}
	// A kept variable has no Args, and its Name does not matter.
	for _, name := range []string{"", "x", "X", "\xff", "Long name", "v1"} {
		checkGeneralIs(t, variable(name), impl.Expr{Kind: impl.ExVar, Name: name, Args: []impl.Expr{}}, impl.General{Term: variable(name)})
		checkGeneral(t, con("C", variable(name), applied(name, x)), con("C", variable(name), applied(name, x)))
	}
	checkGeneralIs(t, con("C", n, applied("v1", applied("v3", variable("v4")))), con("C", x, applied("v2")), impl.General{
		Term:   con("C", variable("v5"), variable("v6")),
		First:  []impl.Binding{binding("v5", n), binding("v6", applied("v1", applied("v3", variable("v4"))))},
		Second: []impl.Binding{binding("v5", x), binding("v6", variable("v2"))},
	})
}

// TestGeneralizationsOfHeads has all pairs of a few heads.
func TestGeneralizationsOfHeads(t *testing.T) {
	var all []impl.Expr
	for _, kind := range []int{math.MinInt, -1, 0, impl.ExVar, impl.ExCon, impl.ExCall, impl.ExStuck, 5, 257, math.MaxInt} {
		for _, name := range []string{"", "x", "y", "N"} {
			for count := range 3 {
				all = append(all, impl.Expr{Kind: kind, Name: name, Args: copies(count, con("A"))})
			}
		}
	}
	for _, a := range all {
		for _, b := range all {
			g := impl.Generalize(a, b)
			isSame := textOf(a) == textOf(b) && (a.Kind != impl.ExVar || len(a.Args) == 0)
			if isSame != (len(g.First) == 0) || isSame != (textOf(g.Term) == textOf(a)) {
				t.Errorf("Generalize(%s, %s) = %s", textOf(a), textOf(b), generalText(g))
			}
			checkGeneral(t, a, b)
		}
	}
}

func TestGeneralizationsOfSmallExpressions(t *testing.T) {
	t.Parallel()
	few, all := smallExpressions(2), smallExpressions(3)
	for _, a := range few {
		for _, b := range few {
			checkGeneral(t, a, b)
		}
	}
	next := numbersFrom(11)
	larger := expressionsOver(5, variable("x"), variable("v1"), con("N"), call("f"))
	for range 20000 {
		checkGeneral(t, few[next(len(few))], all[next(len(all))])
		checkGeneral(t, all[next(len(all))], all[next(len(all))])
		checkGeneral(t, larger[next(len(larger))], larger[next(len(larger))])
	}
}

// TestGeneralizationsAreLeast has all expressions of a few nodes as other
// generalizations.
func TestGeneralizationsAreLeast(t *testing.T) {
	t.Parallel()
	small := expressionsOver(3, variable("x"), variable("y"), con("N"), call("f"), stuck())
	small = slices.DeleteFunc(small, hasApplied)
	others := expressionsOver(4, variable("x"), variable("y"), variable("z"), con("N"), call("f"))
	others = slices.DeleteFunc(others, hasApplied)
	found := 0
	next := numbersFrom(12)
	for _, a := range small {
		for range 12 {
			b := small[next(len(small))]
			found += checkLeast(t, checkGeneral(t, a, b).Term, a, b, others)
		}
	}
	if found < 5000 {
		t.Errorf("only %d generalizations", found)
	}
}

// TestGeneralizationsOfInstances has instances of a pattern, which is a
// generalization of them.
func TestGeneralizationsOfInstances(t *testing.T) {
	state, kept := uint32(13), 0
	for round := range 2000 {
		pattern := irregular(1+round%40, &state)
		instance := func() impl.Expr {
			return impl.ApplyBindings(pattern, []impl.Binding{binding("x", irregular(1+round%7, &state)), binding("y", irregular(1+round%3, &state))})
		}
		a, b := instance(), instance()
		g := checkGeneral(t, a, b)
		if checkLeast(t, g.Term, a, b, []impl.Expr{pattern, variable("z")}) != 2 {
			t.Errorf("%s is no generalization", textOf(pattern))
		}
		if _, ok := impl.RenamingOf(pattern, g.Term); ok {
			kept++
		}
	}
	if kept < 100 {
		t.Errorf("only %d times, the least generalization is the pattern", kept)
	}
}

func TestGeneralizationsOfIrregularExpressions(t *testing.T) {
	t.Parallel()
	state := uint32(14)
	next := func(n int) int { return nextOf(&state, n) }
	for round := range 1500 {
		a := irregular(1+round%sizeLimit, &state)
		b := cloneExpr(a)
		for range 1 + round%5 {
			nodes := nodesIn(&b)
			*nodes[next(len(nodes))] = irregular(1+next(5), &state)
		}
		checkGeneral(t, a, b)
		checkGeneral(t, a, grown(b, next))
		checkGeneral(t, b, irregular(1+round%sizeLimit, &state))
	}
}

// TestGeneralizationOfThree generalizes what was generalized.
func TestGeneralizationOfThree(t *testing.T) {
	state := uint32(15)
	for round := range 500 {
		a := irregular(1+round%40, &state)
		b, c := cloneExpr(a), cloneExpr(a)
		for _, e := range []*impl.Expr{&b, &c} {
			nodes := nodesIn(e)
			*nodes[nextOf(&state, len(nodes))] = irregular(1+nextOf(&state, 4), &state)
		}
		g := checkGeneral(t, checkGeneral(t, a, b).Term, c)
		h := checkGeneral(t, a, checkGeneral(t, c, b).Term)
		checkIsGeneral(t, g.Term, []impl.Expr{a, b, c}, true)
		checkIsGeneral(t, h.Term, []impl.Expr{c, b, a, g.Term}, true)
	}
}

// checkGeneralWithin is checkGeneral for expressions that are large for a call
// that does too much.
func checkGeneralWithin(t *testing.T, what string, a impl.Expr, b impl.Expr) {
	t.Helper()
	within(t, time.Second, what, func() { impl.Generalize(a, b) })
	checkGeneral(t, a, b)
}

func TestGeneralizationsAtTheLimits(t *testing.T) {
	n, m, x := con("N"), con("M"), variable("x")
	for shift := range 4 {
		for _, side := range []impl.Expr{n, x, m} {
			for _, last := range []impl.Expr{n, x, call("f")} {
				a := full(n, x, shift)
				checkGeneralWithin(t, "the limits of size and depth", a, full(side, last, shift))
				checkGeneralWithin(t, "the limits of size and depth", a, full(side, last, shift+1))
			}
		}
	}
	for _, size := range []int{sizeLimit - 1, sizeLimit, sizeLimit + 1, 1000} {
		a, b, c := bushOf(size), bushOf(size), bushOf(size)
		for i, node := range nodesIn(&a) {
			node.Name = "A" + strconv.Itoa(i/2)
		}
		checkGeneralWithin(t, "another name at the root", a, b)
		others := nodesIn(&c)
		for i, node := range nodesIn(&b) {
			if len(node.Args) == 0 {
				node.Name, others[i].Name = "A"+strconv.Itoa(i), "A"+strconv.Itoa(i*7%size)
			}
		}
		checkGeneralWithin(t, "other leaves", b, c)
		checkGeneralWithin(t, "equal leaves on one side", bushOf(size), c)
		checkGeneralWithin(t, "a part of another size", bushOf(size), con("B", copies(argsLimit, bushOf(size/argsLimit-1))...))
	}
	for _, depth := range []int{depthLimit - 1, depthLimit, depthLimit + 1, 1000} {
		checkGeneralWithin(t, "towers", tower(depth, x), tower(depth, n))
		checkGeneralWithin(t, "towers of different depths", tower(depth+2, n), tower(depth, n))
		checkGeneralWithin(t, "towers with different heads", tower(depth+1, n), tower(depth, n))
		checkGeneralWithin(t, "towers with sides", spine(depth, 3, depth%3, n, x), spine(depth, 3, depth%3, m, x))
	}
}

// TestGeneralizationsOfDifferentTowers has as many pairs as levels, and the parts
// of each pair differ from those of the others far below only.
func TestGeneralizationsOfDifferentTowers(t *testing.T) {
	const count = 300
	var as, bs, cs []impl.Expr
	for i := range count {
		as = append(as, spine(count, 1, 0, con("N"), con("N"+strconv.Itoa(i))))
		bs = append(bs, spine(count+i, 1, 0, con("N"), con("N")))
		cs = append(cs, con("S", spine(count, 1, 0, con("N"), con("N"+strconv.Itoa(i/2)))))
	}
	for _, pair := range [][2][]impl.Expr{{as, cs}, {cs, bs}, {bs, cs}, {append(slices.Clone(bs), as...), append(slices.Clone(cs), cs...)}} {
		g := checkBigGeneral(t, time.Minute, "towers", con("Q", pair[0]...), con("Q", pair[1]...))
		if len(g.First) != len(pair[0]) {
			t.Errorf("%d new variables for %d pairs", len(g.First), len(pair[0]))
		}
	}
	g := checkBigGeneral(t, time.Minute, "towers that occur again", con("Q", append(copies(count, as[0]), as[1])...), con("Q", append(copies(count, cs[0]), cs[0])...))
	if len(g.First) != 2 || g.Term.Args[0].Name != "v1" || g.Term.Args[count-1].Name != "v1" || g.Term.Args[count].Name != "v2" {
		t.Errorf("%d new variables for two pairs", len(g.First))
	}
}

// checkBigGeneral is checkGeneral for expressions of which no text can be made.
func checkBigGeneral(t *testing.T, limit time.Duration, what string, a impl.Expr, b impl.Expr) impl.General {
	t.Helper()
	var g, back impl.General
	within(t, limit, what, func() { g = impl.Generalize(a, b) })
	within(t, limit, what, func() { back = impl.Generalize(b, a) })
	checkBigEqual(t, what+", First,", impl.ApplyBindings(g.Term, g.First), a)
	checkBigEqual(t, what+", Second,", impl.ApplyBindings(g.Term, g.Second), b)
	if !impl.IsGeneral(g.Term, []impl.Expr{a, b}) {
		t.Errorf("%s: IsGeneral is false", what)
	}
	if !impl.EqualGeneral(g, exchanged(back)) {
		t.Errorf("%s: the generalization is another one if the expressions are exchanged", what)
	}
	for i, one := range g.First {
		if len(g.First) != len(g.Second) || one.Name != g.Second[i].Name {
			t.Fatalf("%s: the bindings have different names", what)
		}
	}
	return g
}

// checkBigGeneralIs also has the right Term and bindings.
func checkBigGeneralIs(t *testing.T, what string, a impl.Expr, b impl.Expr, want impl.General) {
	t.Helper()
	if g := checkBigGeneral(t, time.Minute, what, a, b); !impl.EqualGeneral(g, want) {
		t.Errorf("%s: another generalization, with %d bindings", what, len(g.First))
	}
}

// oneGap is the generalization with the Term and one new variable.
func oneGap(term impl.Expr, first impl.Expr, second impl.Expr) impl.General {
	return impl.General{Term: term, First: []impl.Binding{binding("v1", first)}, Second: []impl.Binding{binding("v1", second)}}
}

func TestGeneralizationsOfVeryDeepExpressions(t *testing.T) {
	const depth = 100000
	n, m, x, v := con("N"), con("M"), variable("x"), variable("v1")
	deep := tower(depth, n)
	checkBigGeneralIs(t, "equal towers", deep, tower(depth, n), impl.General{Term: deep})
	checkBigGeneralIs(t, "towers with a variable", tower(depth, x), tower(depth, x), impl.General{Term: tower(depth, x)})
	checkBigGeneralIs(t, "towers with another last node", deep, tower(depth, m), oneGap(tower(depth, v), n, m))
	checkBigGeneralIs(t, "a tower and a leaf", deep, x, oneGap(v, deep, x))
	checkBigGeneralIs(t, "a tower and the half of it", spine(depth, 1, 0, n, n), spine(depth/2, 1, 0, n, n), oneGap(spine(depth/2, 1, 0, n, v), spine(depth-depth/2+1, 1, 0, n, n), n))
	checkBigGeneralIs(t, "a pair of towers that occurs again", con("D", deep, deep, x), con("D", con("S", deep), con("S", deep), x), oneGap(con("D", v, v, x), deep, con("S", deep)))
	checkBigGeneralIs(t, "sides of a tower", spine(depth, 3, 1, n, n), spine(depth, 3, 1, m, n), oneGap(spine(depth, 3, 1, v, n), n, m))
	if !impl.IsGeneral(tower(depth, x), []impl.Expr{deep, tower(depth+2, n), tower(depth, m)}) || impl.IsGeneral(tower(depth, x), []impl.Expr{deep, tower(depth-2, n)}) {
		t.Error("IsGeneral of very deep expressions")
	}
}

func TestGeneralizationsOfVeryWideExpressions(t *testing.T) {
	const width = 100000
	var as, bs, vars, xs, again []impl.Expr
	var first, second, same []impl.Binding
	for i := range width {
		name := "v" + strconv.Itoa(i+1)
		as, bs, vars = append(as, con("A"+strconv.Itoa(i))), append(bs, con("S", con("B"+strconv.Itoa(i)))), append(vars, variable(name))
		first, second, same = append(first, binding(name, as[i])), append(second, binding(name, bs[i])), append(same, binding(name, con("N")))
		xs, again = append(xs, variable("x"+strconv.Itoa(i))), append(again, bs[i/2*2])
	}
	n := con("Q", copies(width, con("N"))...)
	a, b, v, x := con("Q", as...), con("Q", bs...), con("Q", vars...), con("Q", xs...)
	checkBigGeneralIs(t, "different Args", a, b, impl.General{Term: v, First: first, Second: second})
	checkBigGeneralIs(t, "equal Args on one side", n, b, impl.General{Term: v, First: same, Second: second})
	checkBigGeneralIs(t, "an expression and itself", b, cloneExpr(b), impl.General{Term: b})
	checkBigGeneralIs(t, "variables that are kept", x, cloneExpr(x), impl.General{Term: x})
	checkBigGeneralIs(t, "equal pairs", n, con("Q", copies(width, con("M"))...), oneGap(con("Q", copies(width, variable("v1"))...), con("N"), con("M")))
	checkBigGeneralIs(t, "another number of Args", n, con("Q", n.Args[1:]...), oneGap(variable("v1"), n, con("Q", n.Args[1:]...)))
	g := checkBigGeneral(t, time.Minute, "pairs twice", n, con("Q", again...))
	if len(g.First) != width/2 || g.Term.Args[width-1].Name != "v"+strconv.Itoa(width/2) || g.Term.Args[width-2].Name != g.Term.Args[width-1].Name {
		t.Errorf("%d new variables for pairs that occur twice", len(g.First))
	}
	// All new names are those behind all that are taken.
	g = checkBigGeneral(t, time.Minute, "names that are taken", con("P", v, a), con("P", v, b))
	if len(g.First) != width || g.First[0].Name != "v"+strconv.Itoa(width+1) || g.First[width-1].Name != "v"+strconv.Itoa(2*width) {
		t.Errorf("%d new variables where names are taken", len(g.First))
	}
	list := copies(width, con("S", con("N")))
	if !impl.IsGeneral(con("S", variable("x")), list) || impl.IsGeneral(con("S", variable("x")), append(list, con("N"))) {
		t.Error("IsGeneral of a very long list")
	}
}

// TestGeneralizationsOfSharedParts has expressions that no call could go through
// node by node.
func TestGeneralizationsOfSharedParts(t *testing.T) {
	n, m, x, v := con("N"), con("M"), variable("x"), variable("v1")
	for _, levels := range []int{1, 2, 10, 60, 1000} {
		e := dense(levels, n)
		checkBigGeneralIs(t, "an expression and itself", e, e, impl.General{Term: e})
		checkBigGeneralIs(t, "equal expressions", e, dense(levels, n), impl.General{Term: e})
		checkBigGeneralIs(t, "other leaves", e, dense(levels, x), oneGap(dense(levels, v), n, x))
		checkBigGeneralIs(t, "another last leaf", e, denseBut(levels, n, m), oneGap(denseBut(levels, n, v), n, m))
		checkBigGeneralIs(t, "more levels", e, dense(2*levels, n), oneGap(dense(levels, v), n, dense(levels, n)))
		checkBigGeneralIs(t, "another head", e, call("C", e, e), oneGap(v, e, call("C", e, e)))
		checkBigGeneralIs(t, "a pair that occurs again", con("D", e, dense(levels, n), con("S", e)), con("D", x, x, con("S", x)), oneGap(con("D", v, v, con("S", v)), e, x))
		g := checkBigGeneral(t, time.Minute, "pairs that differ in the last leaf", con("D", e, denseBut(levels, n, m), e), con("D", x, x, x))
		if len(g.First) != 2 || g.Term.Args[1].Name != "v2" || g.Term.Args[2].Name != "v1" {
			t.Errorf("%d new variables for two pairs", len(g.First))
		}
		if !impl.IsGeneral(dense(levels, x), []impl.Expr{e, e, dense(levels, m)}) || impl.IsGeneral(dense(levels, x), []impl.Expr{e, denseBut(levels, n, m)}) {
			t.Error("IsGeneral of shared parts")
		}
	}
	// Overlapping Args of different heads.
	args := []impl.Expr{con("A"), con("S", con("A")), x, con("A")}
	var all []impl.Expr
	for _, head := range []impl.Expr{con("C"), con("D"), applied("x"), stuck()} {
		for from := range len(args) {
			for to := from; to <= len(args); to++ {
				all = append(all, impl.Expr{Kind: head.Kind, Name: head.Name, Args: args[from:to]})
			}
		}
	}
	for i, a := range all {
		for j, b := range all {
			checkGeneral(t, con("P", a, b, a), con("P", b, all[(i+j)%len(all)], b))
		}
	}
}

// meantGraphClasses has equal numbers for nodes of a graph that are equal
// expressions, without an end or with one.
func meantGraphClasses(heads []impl.Expr, args [][]int) []int {
	classes := make([]int, len(heads))
	for range heads {
		numbers := map[string]int{}
		next := make([]int, len(heads))
		for at, head := range heads {
			text := textOf(head)
			for _, arg := range args[at] {
				text += " " + strconv.Itoa(classes[arg])
			}
			if _, ok := numbers[text]; !ok {
				numbers[text] = len(numbers)
			}
			next[at] = numbers[text]
		}
		classes = next
	}
	return classes
}

// TestGeneralizationsOfGraphs has expressions of which most are parts of
// themselves. A pair of them at all places gets one variable for equal pairs.
func TestGeneralizationsOfGraphs(t *testing.T) {
	t.Parallel()
	next, found := numbersFrom(16), map[bool]int{}
	for round := range 40 {
		count := 2 + round%7
		heads, args := anyGraph(count, 2+round%5, next)
		classes, nodes := meantGraphClasses(heads, args), graphOf(heads, args)
		var firsts, seconds []impl.Expr
		var pairs [][2]int
		for a := range nodes {
			for b := range nodes {
				// Another head keeps the parts of a pair from being compared.
				firsts, seconds = append(firsts, con("U", nodes[a])), append(seconds, con("V", nodes[b]))
				pairs = append(pairs, [2]int{classes[a], classes[b]})
			}
		}
		g := impl.Generalize(con("P", firsts...), con("P", seconds...))
		for i := range pairs {
			for j := range i {
				want := pairs[i] == pairs[j]
				found[want]++
				if got := g.Term.Args[i].Name == g.Term.Args[j].Name; got != want {
					t.Fatalf("pairs %v and %v of %v with %v: %v, want %v", pairs[i], pairs[j], args, namesIn(heads), got, want)
				}
			}
		}
		checkBigGeneral(t, time.Minute, "a graph", nodes[next(count)], nodes[next(count)])
	}
	if found[true] < 100 || found[false] < 100 {
		t.Errorf("the pairs are equal as %v", found)
	}
}

func TestGeneralizationsOfEndlessExpressions(t *testing.T) {
	n, m, x, v := con("N"), con("M"), variable("x"), variable("v1")
	list := endlessList(n)
	checkBigGeneralIs(t, "a ring and itself", ring(3), ring(3), impl.General{Term: ring(1)})
	checkBigGeneralIs(t, "rings", ring(30), ring(31), impl.General{Term: ring(1)})
	checkBigGeneralIs(t, "a ring and a leaf", ring(3), n, oneGap(v, ring(3), n))
	checkBigGeneralIs(t, "a ring and a tower", ring(3), spine(100, 1, 0, n, n), oneGap(v, ring(3), spine(100, 1, 0, n, n)))
	checkBigGeneralIs(t, "a ring and a tower of the same head", ring(3), con("S", con("S", n)), oneGap(con("S", con("S", v)), ring(1), n))
	checkBigGeneralIs(t, "lists", list, endlessList(n), impl.General{Term: list})
	checkBigGeneralIs(t, "lists with other elements", list, endlessList(m), oneGap(endlessList(v), n, m))
	checkBigGeneralIs(t, "lists of the same variable", endlessList(x), endlessList(x), impl.General{Term: endlessList(x)})
	checkBigGeneralIs(t, "a list and its beginning", list, con("C", n, con("C", n, m)), oneGap(con("C", n, con("C", n, v)), list, m))
	checkBigGeneralIs(t, "a pair of lists that occurs again", con("D", list, endlessList(n), con("C", n, list)), con("D", x, x, x), oneGap(con("D", v, v, v), list, x))
	checkBigGeneralIs(t, "lists of lists", endlessList(list), endlessList(endlessList(m)), oneGap(endlessList(endlessList(v)), n, m))
	checkBigGeneralIs(t, "lists of different heads", endlessList(list), endlessList(m), oneGap(endlessList(v), list, m))
	checkBigGeneralIs(t, "large rings at different places", con("D", ring(20011), x), con("D", x, ring(20011)), impl.General{
		Term: con("D", v, variable("v2")), First: []impl.Binding{binding("v1", ring(1)), binding("v2", x)}, Second: []impl.Binding{binding("v1", x), binding("v2", ring(1))},
	})
	wide := con("C", make([]impl.Expr, 300)...)
	for i := range wide.Args {
		wide.Args[i] = con("C", wide.Args...)
	}
	checkBigGeneralIs(t, "itself in all Args", wide, con("C", slices.Clone(wide.Args)...), impl.General{Term: wide})
	if !impl.IsGeneral(endlessList(x), []impl.Expr{list, endlessList(m), endlessList(list)}) || impl.IsGeneral(endlessList(x), []impl.Expr{list, con("C", n, con("C", m, list))}) {
		t.Error("IsGeneral of endless expressions")
	}
	g := impl.Generalize(endlessList(n), endlessList(x))
	if !impl.EqualGeneral(g, impl.Generalize(endlessList(n), endlessList(x))) || impl.EqualGeneral(g, impl.Generalize(endlessList(n), endlessList(m))) {
		t.Error("EqualGeneral of endless expressions")
	}
}

func TestIsGeneral(t *testing.T) {
	for _, c := range []struct {
		e, list string
		want    bool
	}{
		// No elements.
		{"x", "", true}, {"N", "", true}, {"!", "", true}, {"f(x,x)", "", true},
		// One.
		{"x", "N", true}, {"x", "x", true}, {"x", "f(x,!)", true}, {"N", "N", true}, {"N", "x", false}, {"N", "M", false}, {"f(x,x)", "f(N,N)", true}, {"f(x,x)", "f(N,Z)", false}, {"f(x,N)", "f(!,N)", true}, {"f(x,N)", "f(N,x)", false}, {"f(x)", "f(x,y)", false}, {"S(x)", "f(x)", false}, {"!", "!", true}, {"!", "N", false},
		// Several.
		{"f(x,y)", "f(N,N) f(y,x)", true}, {"x", "N M ! f() x S(y)", true}, {"S(x)", "S(N) S(S(N)) S(!) S(x) S(y)", true}, {"C(x,x)", "C(N,N) C(y,y) C(x,x) C(S(z),S(z))", true}, {"app(x,S(y))", "app(N,S(N)) app(x,S(x)) app(!,S(S(!)))", true}, {"N", "N N N", true}, {"f()", "f() f()", true},
		// One of them is no instance: the first, the last, one between, all.
		{"f(x,x)", "f(N,Z) f(N,N) f(Z,Z)", false}, {"f(x,x)", "f(N,N) f(N,Z) f(Z,Z)", false}, {"f(x,x)", "f(N,N) f(Z,Z) f(N,Z)", false}, {"S(x)", "N S(N) S(S(N))", false}, {"S(x)", "S(N) S(S(N)) N", false}, {"S(x)", "S(N) x S(N)", false}, {"S(x)", "x y z", false}, {"N", "N N M", false}, {"N", "M N N", false},
		{"C(x,N)", "C(N,N) C(N,Z)", false}, {"C(x,N)", "C(N,Z) C(N,N)", false}, {"C(x,y)", "C(N,Z) C(N)", false}, {"!", "! ! N", false}, {"!", "N ! !", false},
		// Each element has its own bindings.
		{"x", "N x", true}, {"C(x,y)", "C(N,Z) C(Z,N)", true}, {"C(x,S(x))", "C(N,S(N)) C(Z,S(Z)) C(x,S(x)) C(y,S(y))", true}, {"C(x,S(x))", "C(N,S(N)) C(Z,S(N))", false},
	} {
		list := listOf(t, c.list)
		checkIsGeneral(t, exprOf(t, c.e), list, c.want)
		slices.Reverse(list)
		checkIsGeneral(t, exprOf(t, c.e), list, c.want)
	}
	checkIsGeneral(t, impl.Expr{}, nil, true)
	checkIsGeneral(t, impl.Expr{}, []impl.Expr{}, true)
	checkIsGeneral(t, impl.Expr{}, []impl.Expr{{}}, true)
	checkIsGeneral(t, impl.Expr{}, []impl.Expr{{}, {Kind: 7}}, false)
	checkIsGeneral(t, applied("x", con("N")), []impl.Expr{applied("x", con("N"))}, true)
	checkIsGeneral(t, applied("x", con("N")), []impl.Expr{applied("x", con("N")), con("N")}, false)
	checkIsGeneral(t, variable("x"), []impl.Expr{applied("x", con("N")), {}, stuck()}, true)
}

// TestIsGeneralOfManyLists compares it with the matches of all elements.
func TestIsGeneralOfManyLists(t *testing.T) {
	next, found := numbersFrom(17), map[bool]int{}
	all := append(smallExpressions(2), expressionsOver(3, variable("x"), variable("y"), con("N"), applied("z", con("N")))...)
	for range 30000 {
		e := all[next(len(all))]
		var list []impl.Expr
		want := true
		for range next(4) {
			element := all[next(len(all))]
			if next(4) > 0 {
				element = meantApplied(e, []impl.Binding{binding("x", all[next(len(all))]), binding("y", element)})
			}
			_, isInstance := meantMatch(e, element)
			list, want = append(list, element), want && isInstance
		}
		checkIsGeneral(t, e, list, want)
		found[want]++
	}
	if found[true] < 1000 || found[false] < 1000 {
		t.Errorf("the lists have a generalization or not: %v", found)
	}
}

func TestEqualGeneral(t *testing.T) {
	texts := [][3]string{
		{"x", "", ""}, {"v1", "v1=N", "v1=Z"}, {"v2", "v1=N", "v1=Z"}, {"v1", "v2=N", "v1=Z"}, {"v1", "v1=N", "v2=Z"}, {"v1", "v1=M", "v1=Z"}, {"v1", "v1=N", "v1=M"}, {"v1", "v1=Z", "v1=N"}, {"S(v1)", "v1=N", "v1=Z"}, {"v1", "", "v1=Z"}, {"v1", "v1=N", ""}, {"v1", "", ""},
		{"C(v1,v2)", "v1=N v2=M", "v1=Z v2=x"}, {"C(v2,v1)", "v1=N v2=M", "v1=Z v2=x"}, {"C(v1,v2)", "v2=M v1=N", "v1=Z v2=x"}, {"C(v1,v2)", "v1=N v2=M", "v2=x v1=Z"}, {"C(v1,v2)", "v1=M v2=N", "v1=Z v2=x"}, {"C(v1,v2)", "v1=N v2=M", "v1=x v2=Z"}, {"C(v1,v2)", "v2=N v1=M", "v1=Z v2=x"},
		{"C(v1,v2)", "v1=N", "v1=Z v2=x"}, {"C(v1,v2)", "v1=N v2=M", "v1=Z"}, {"C(v1,v2)", "v1=N v2=M v3=N", "v1=Z v2=x"}, {"C(v1,v2)", "v1=N v2=M", "v1=Z v2=x v2=x"}, {"C(v1,v2)", "v1=Z v2=x", "v1=N v2=M"}, {"C(v1,v2)", "v1=N v2=S(M)", "v1=Z v2=x"}, {"C(v1,v2)", "v1=N v2=M", "v1=Z v2=x()"}, {"c(v1,v2)", "v1=N v2=M", "v1=Z v2=x"},
	}
	for i, a := range texts {
		for j, b := range texts {
			checkEqualGenerals(t, generalOf(t, a[0], a[1], a[2]), generalOf(t, b[0], b[1], b[2]), i == j)
		}
	}
	checkEqualGenerals(t, impl.General{}, impl.General{}, true)
	checkEqualGenerals(t, impl.General{}, impl.General{First: []impl.Binding{}, Second: make([]impl.Binding, 0, 3)}, true)
	checkEqualGenerals(t, impl.General{}, impl.General{First: []impl.Binding{{}}}, false)
	checkEqualGenerals(t, impl.General{}, impl.General{Second: []impl.Binding{{}}}, false)
	checkEqualGenerals(t, impl.General{}, impl.General{Term: impl.Expr{Kind: -7}}, false)
	checkEqualGenerals(t, impl.General{First: []impl.Binding{{}}}, impl.General{Second: []impl.Binding{{}}}, false)
}

func TestEqualGeneralInEveryFieldOfEveryPart(t *testing.T) {
	general := func() impl.General {
		return impl.General{
			Term:   call("app", variable("v1"), con("C", stuck(), variable("v2"))),
			First:  []impl.Binding{binding("v1", con("S", con("N"))), binding("v2", impl.Expr{Kind: 9})},
			Second: []impl.Binding{binding("v1", applied("x", con("N"))), binding("v2", call("f", variable("x")))},
		}
	}
	// values are all expressions of a generalization.
	values := func(g *impl.General) []*impl.Expr {
		list := []*impl.Expr{&g.Term}
		for i := range g.First {
			list = append(list, &g.First[i].Value, &g.Second[i].Value)
		}
		return list
	}
	whole := general()
	checkEqualGenerals(t, whole, general(), true)
	for at, value := range values(&whole) {
		for node := range nodesIn(value) {
			for _, change := range changesOfOneField {
				changed := general()
				change(nodesIn(values(&changed)[at])[node])
				checkEqualGenerals(t, whole, changed, generalText(whole) == generalText(changed))
			}
		}
	}
	for at := range whole.First {
		first, second := general(), general()
		first.First[at].Name += "1"
		second.Second[at].Name = ""
		checkEqualGenerals(t, whole, first, false)
		checkEqualGenerals(t, whole, second, false)
	}
}

// memoryOfGeneral returns where a generalization lies. It also changes the Names.
func memoryOfGeneral(g impl.General) (term []*impl.Expr, first []*impl.Expr, second []*impl.Expr) {
	return memoryOf(g.Term), memoryIn(g.First), memoryIn(g.Second)
}

func TestGeneralizationsShareNoMemory(t *testing.T) {
	part := con("S", con("S", con("N")), con("Rest"))
	part.Args = part.Args[:1]
	bare := variable("z")
	bare.Args = []impl.Expr{con("Rest"), con("More")}[:0]
	n := con("N")
	all := []impl.Expr{
		con("C", part, part, bare, con("D", part), part), con("C", part, n, bare, con("D", n), part), con("C", n, part, bare, con("D", bare), n), con("C", bare, bare, part, con("D", part), call("f", part)), con("C", part, part, part, part, con("T", part)),
		part, bare, n, con("S", part), con("S", bare), con("S", n), applied("z", part), con("T", part), call("f", part, part),
	}
	for i, a := range all {
		for j, b := range all {
			o := owner{}
			for _, argument := range all {
				for _, at := range memoryOf(argument) {
					o[at] = "an argument"
				}
			}
			want := generalText(meantGeneral(a, b))
			g, again := impl.Generalize(a, b), impl.Generalize(a, b)
			what := "Generalize of " + strconv.Itoa(i) + " and " + strconv.Itoa(j)
			for _, one := range []impl.General{g, again} {
				term, first, second := memoryOfGeneral(one)
				o.mustOwn(t, what+", the Term,", term)
				o.mustOwn(t, what+", First,", first)
				o.mustOwn(t, what+", Second,", second)
			}
			if got := generalText(impl.Generalize(a, b)); got != want {
				t.Errorf("%s gives %s, before %s", what, got, want)
			}
		}
	}
}

// TestFirstAndSecondAreSeparate changes First, and then looks at the rest.
func TestFirstAndSecondAreSeparate(t *testing.T) {
	s, d := con("S", con("N")), con("D", con("S", con("N")), con("N"))
	a, b := con("C", s, con("E", d), s, s), con("C", d, con("E", s), d, con("S", con("M")))
	want := meantGeneral(cloneExpr(a), cloneExpr(b))
	text := textOf(a) + textOf(b)
	g := impl.Generalize(a, b)
	if len(g.First) != 3 {
		t.Fatalf("%d new variables", len(g.First))
	}
	for i := range g.First {
		for _, node := range nodesIn(&g.First[i].Value) {
			node.Name, node.Kind = "changed", 9
		}
		g.First[i].Name = "changed"
	}
	if got := (impl.General{Term: g.Term, First: want.First, Second: g.Second}); generalText(got) != generalText(want) || textOf(a)+textOf(b) != text {
		t.Errorf("after a change of First, %s, want %s", generalText(got), generalText(want))
	}
	clear(g.First)
	for _, node := range nodesIn(&g.Term) {
		node.Name = "changed"
	}
	if bindingsText(g.Second) != bindingsText(want.Second) || textOf(a)+textOf(b) != text {
		t.Errorf("after a change of the Term, %s, want %s", bindingsText(g.Second), bindingsText(want.Second))
	}
}

// TestPartsOfLargeGeneralizationsAreSeparate has arguments whose parts share
// nothing, so that the parts of the results have no memory in common, however
// many they are.
func TestPartsOfLargeGeneralizationsAreSeparate(t *testing.T) {
	t.Parallel()
	n := con("N")
	for _, size := range []int{3, 1500, 2900} {
		whole := con("P", copies(size, con("L", copies(size, n)...))...)
		g := impl.Generalize(whole, whole)
		if len(g.Term.Args) != size || len(g.First) != 0 {
			t.Fatalf("a Term of %d Args with %d new variables", len(g.Term.Args), len(g.First))
		}
		checkSeparate(t, "the Term", g.Term.Args)
		var others []impl.Expr
		for i := range size {
			others = append(others, con("M"+strconv.Itoa(i)))
		}
		g = impl.Generalize(whole, con("P", others...))
		var values []impl.Expr
		for _, one := range g.First {
			values = append(values, one.Value)
		}
		if len(values) != size {
			t.Fatalf("%d new variables", len(values))
		}
		checkSeparate(t, "First", values)
		checkSeparate(t, "an argument", whole.Args)
	}
}

// TestPartsOfGeneralizationsOfSharedParts has arguments whose parts share memory,
// but for whose generalizations there is memory without sharing.
func TestPartsOfGeneralizationsOfSharedParts(t *testing.T) {
	n := con("N")
	for _, size := range []int{3, 100, 1000} {
		part, other := con("L", copies(size, n)...), con("L", copies(size, con("M"))...)
		shared, others := slices.Repeat([]impl.Expr{part}, size), slices.Repeat([]impl.Expr{other}, size)
		g := impl.Generalize(con("P", shared...), con("P", others...))
		checkBigEqual(t, "the Term", g.Term, con("P", copies(size, con("L", copies(size, variable("v1"))...))...))
		checkSeparate(t, "the Term", g.Term.Args)
		for i := range others {
			others[i] = con("M" + strconv.Itoa(i))
		}
		g = impl.Generalize(con("P", others...), con("P", shared...))
		var values []impl.Expr
		for _, one := range g.Second {
			values = append(values, one.Value)
		}
		checkSeparate(t, "Second", values)
		checkBigEqual(t, "an argument", con("P", shared...), con("P", copies(size, con("L", copies(size, n)...))...))
	}
	// Without sharing, there is no memory: but arguments and results are separate.
	a, b := dense(100, n), dense(100, con("S", n))
	g := impl.Generalize(con("D", a, b), con("D", b, a))
	h := impl.Generalize(con("D", a, con("S", b)), con("D", a, con("T", b)))
	changeArgs(a)
	changeArgs(b)
	checkBigEqual(t, "the Term", g.Term, con("D", dense(100, variable("v1")), dense(100, variable("v2"))))
	checkBigEqual(t, "First", h.First[0].Value, con("S", dense(100, con("S", n))))
	changeArgs(h.First[0].Value)
	changeArgs(h.Term)
	checkBigEqual(t, "Second", h.Second[0].Value, con("T", dense(100, con("S", n))))
}

// TestGeneralizationsLeaveArgumentsAlone covers promise 34 for chapter 10.
func TestGeneralizationsLeaveArgumentsAlone(t *testing.T) {
	x, y := variable("x"), variable("y")
	args := []impl.Expr{x, call("f", y), con("S", con("N")), con("Rest"), con("More")}
	part := con("C", args[:3]...)
	more := []impl.Expr{part, con("D", args[:2]...), con("S", part), part, con("Rest", x), applied("More", y)}
	whole := call("g", more[:3]...)
	list := []impl.Expr{whole, con("S", whole), con("C", args[1:4]...), part, x, con("D", more[1:3]...), call("g", more[1:4]...), con("Rest"), call("g", more[2:5]...), applied("x", part)}
	bindings := []impl.Binding{binding("v1", whole), binding("v2", part), binding("v1", y), binding("rest", whole)}
	generals := []impl.General{{Term: whole, First: bindings[:2], Second: bindings[1:3]}, {Term: whole, First: bindings[:3], Second: bindings[1:3]}, {Term: part, First: bindings[1:2], Second: bindings[:0]}}
	before := wholeText(con("", list...)) + wholeList(bindings)
	for range 2 {
		for _, a := range list {
			for _, b := range list {
				checkGeneral(t, a, b)
			}
		}
		for from := range 7 {
			for to := from; to <= 7; to++ {
				checkIsGeneral(t, x, list[from:to], true)
				checkIsGeneral(t, con("D", x, y), list[from:to], from == 5 && to == 6 || from == to)
			}
		}
		for i, a := range generals {
			for j, b := range generals {
				checkEqualGenerals(t, a, b, i == j)
			}
		}
		if after := wholeText(con("", list...)) + wholeList(bindings); after != before {
			t.Fatalf("the arguments became %s, before %s", after, before)
		}
	}
}
