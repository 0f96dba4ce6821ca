package tests

import (
	"math"
	"slices"
	"strconv"
	"strings"
	"testing"
	"time"

	"loop.example/g00584/impl"
)

// meanings follow the sentences of chapter 9 one by one, as a second opinion on
// what the program returns, and remember it for pairs of texts.
type meanings map[[2]string]bool

func (known meanings) embeds(a impl.Expr, b impl.Expr) bool {
	pair := [2]string{textOf(a), textOf(b)}
	embeds, ok := known[pair]
	if !ok {
		embeds = known.couples(a, b) || slices.ContainsFunc(b.Args, func(arg impl.Expr) bool { return known.embeds(a, arg) })
		known[pair] = embeds
	}
	return embeds
}

func (known meanings) couples(a impl.Expr, b impl.Expr) bool {
	if isMeantVariable(a) && isMeantVariable(b) {
		return true
	}
	if a.Kind != b.Kind || a.Name != b.Name || len(a.Args) != len(b.Args) {
		return false
	}
	for i := range a.Args {
		if !known.embeds(a.Args[i], b.Args[i]) {
			return false
		}
	}
	return true
}

func isMeantVariable(e impl.Expr) bool { return e.Kind == impl.ExVar && len(e.Args) == 0 }

func (known meanings) first(list []impl.Expr) (int, int, bool) {
	for j := range list {
		for i := range j {
			if known.embeds(list[i], list[j]) {
				return i, j, true
			}
		}
	}
	return 0, 0, false
}

// A fit is what both functions say of a pair.
type fit struct{ embeds, couples bool }

var (
	couples = fit{true, true}
	deeper  = fit{true, false}
	none    = fit{false, false}
)

func checkFit(t *testing.T, a impl.Expr, b impl.Expr, want fit) {
	t.Helper()
	if got := (fit{impl.Embeds(a, b), impl.Couples(a, b)}); got != want {
		t.Errorf("%.500s and %.500s: %+v, want %+v", textOf(a), textOf(b), got, want)
	}
}

// checkMeantFit is promise 9 for a pair. It returns what holds.
func checkMeantFit(t *testing.T, known meanings, a impl.Expr, b impl.Expr) fit {
	t.Helper()
	want := fit{known.embeds(a, b), known.couples(a, b)}
	checkFit(t, a, b, want)
	if want.embeds && len(nodesIn(&a)) > len(nodesIn(&b)) {
		t.Errorf("%.500s is embedded in %.500s, which is smaller", textOf(a), textOf(b))
	}
	return want
}

func checkFirst(t *testing.T, list []impl.Expr, wantI int, wantJ int, want bool) {
	t.Helper()
	if i, j, ok := impl.FirstEmbedded(list); i != wantI || j != wantJ || ok != want {
		t.Errorf("FirstEmbedded(%.1000s) = %d, %d, %v, want %d, %d, %v", textOf(con("", list...)), i, j, ok, wantI, wantJ, want)
	}
}

func checkMeantFirst(t *testing.T, known meanings, list []impl.Expr) bool {
	t.Helper()
	i, j, ok := known.first(list)
	checkFirst(t, list, i, j, ok)
	return ok
}

func TestEmbeddings(t *testing.T) {
	for _, c := range []struct {
		a, b string
		want fit
	}{
		// Without Args.
		{"x", "x", couples}, {"x", "y", couples}, {"x", "x1", couples}, {"N", "N", couples}, {"!", "!", couples}, {"f()", "f()", couples},
		{"x", "N", none}, {"x", "X", none}, {"x", "!", none}, {"x", "f()", none}, {"x", "x()", none}, {"N", "x", none}, {"N", "M", none}, {"N", "Nn", none}, {"N", "!", none}, {"N", "f()", none},
		{"!", "x", none}, {"!", "N", none}, {"!", "f()", none}, {"f()", "f", none}, {"f()", "g()", none}, {"f()", "ff()", none}, {"f()", "F", none}, {"f()", "!", none},
		// Variables below others.
		{"x", "f(x)", deeper}, {"x", "f(y)", deeper}, {"x", "f(N)", none}, {"x", "f(!)", none}, {"x", "C(N,S(y))", deeper}, {"x", "C(S(y),N)", deeper}, {"x", "C(N,S(!))", none}, {"x", "app(y,N)", deeper},
		{"f(x)", "f(y)", couples}, {"f(x)", "x", none}, {"f(x)", "f(N)", none}, {"f(N)", "f(x)", none}, {"f(x)", "f(S(y))", couples}, {"f(S(x))", "f(y)", none}, {"f(x)", "f(!)", none},
		{"C(x,y)", "C(y,x)", couples}, {"C(x,y)", "C(x,x)", couples}, {"C(x,x)", "C(x,y)", couples}, {"C(x,x)", "C(y,z)", couples}, {"C(x,N)", "C(N,x)", none}, {"C(x,x)", "C(S(y),f(N,z))", couples},
		// ExStuck.
		{"!", "f(!)", deeper}, {"!", "S(S(!))", deeper}, {"!", "C(x,y)", none}, {"!", "C(x,!)", deeper}, {"S(!)", "S(!)", couples}, {"S(!)", "S(x)", none}, {"S(x)", "S(!)", none}, {"S(!)", "!", none},
		{"C(!,x)", "C(!,!)", none}, {"C(!,x)", "C(S(!),S(y))", couples}, {"C(x,!)", "C(!,x)", none}, {"f(!)", "g(f(S(!)))", deeper},
		// Other names and numbers of Args.
		{"S(x)", "T(x)", none}, {"f(x)", "g(x)", none}, {"f(x)", "S(x)", none}, {"S(x)", "f(x)", none}, {"S(x)", "S(T(x))", couples}, {"S(x)", "T(S(x))", deeper}, {"S(x)", "T(T(x))", none},
		{"f()", "f(x)", none}, {"f(x)", "f()", none}, {"f(x)", "f(x,y)", none}, {"f(x,y)", "f(x)", none}, {"f(x,y)", "f(x,y,z)", none}, {"f(x,y,z)", "f(x,y)", none}, {"f()", "f(f())", deeper},
		{"N", "N(x)", none}, {"N(x)", "N", none}, {"N(x)", "N(x,x)", none}, {"N(x,x)", "N(x)", none}, {"N", "N(N)", deeper}, {"N(x)", "N(N(x),y)", deeper}, {"N(x,y)", "N(N(x,y))", deeper}, {"f(x)", "f(f(x),y)", deeper},
		{"S(x)", "S(x,y,z)", none}, {"S(S(x))", "S(S(x,y))", none}, {"S(S(x,y))", "S(S(x))", none},
		// Args with the same index, and with another one.
		{"C(A,B)", "C(A,B)", couples}, {"C(A,B)", "C(B,A)", none}, {"C(A,B)", "C(A,A)", none}, {"C(A,B)", "C(B,B)", none}, {"C(A,A)", "C(A,B)", none}, {"C(A,B)", "C(S(A),S(B))", couples},
		{"C(A,B)", "C(S(B),S(A))", none}, {"C(S(A),B)", "C(B,S(A))", none}, {"C(A,B)", "C(D(B,A),D(A,B))", couples}, {"C(A,B)", "C(D(A,B),A)", none}, {"C(A,B)", "C(B,D(A,B))", none},
		{"f(A,B,D)", "f(A,B,D)", couples}, {"f(A,B,D)", "f(A,D,B)", none}, {"f(A,B,D)", "f(B,A,D)", none}, {"f(A,B,D)", "f(B,D,A)", none}, {"f(A,B,D)", "f(S(A),B,C(x,D))", couples}, {"f(A,B,D)", "f(S(A),D,C(B,D))", none},
		{"f(A,B,D)", "f(E,B,D)", none}, {"f(A,B,D)", "f(A,E,D)", none}, {"f(A,B,D)", "f(A,B,E)", none}, {"P(A,B,D,E,F)", "P(A,B,D,E,G)", none}, {"P(A,B,D,E,F)", "P(S(A),S(B),S(D),S(E),S(F))", couples},
		// What is embedded though it doesn't couple.
		{"C(A,B)", "C(C(A,B),A)", deeper}, {"C(A,B)", "C(B,C(A,B))", deeper}, {"C(A,B)", "C(C(B,A),A)", none}, {"C(A,B)", "C(B,C(B,A))", none}, {"C(A,B)", "C(C(A,A),C(B,B))", couples}, {"C(A,B)", "C(C(B,B),C(A,A))", none},
		{"C(A,B)", "C(D,S(C(S(A),S(B))))", deeper}, {"C(A,B)", "C(S(C(S(A),S(B))),D)", deeper}, {"f(A,B,D)", "f(f(A,B,D),E,E)", deeper}, {"f(A,B,D)", "f(E,f(A,B,D),E)", deeper}, {"f(A,B,D)", "f(E,E,f(A,B,D))", deeper},
		{"f(A,B,D)", "f(A,B,f(A,B,D))", couples}, {"f(A,B,D)", "f(f(A,B,D),B,E)", deeper}, {"f(A,B,D)", "f(A,f(A,B,D),E)", deeper}, {"f(A,B,D)", "f(A,E,f(A,B,D))", deeper}, {"f(A,B,D)", "f(A,B,f(A,B,E))", none},
		{"C(S(A),B)", "C(A,C(S(A),B))", deeper}, {"C(A,S(B))", "C(C(A,S(B)),B)", deeper}, {"C(C(A,B),B)", "C(C(C(A,B),B),A)", deeper},
		// Deep inside.
		{"N", "C(x,C(y,C(z,N)))", deeper}, {"N", "C(C(C(N,x),y),z)", deeper}, {"N", "C(x,C(y,C(z,M)))", none}, {"S(Z)", "f(g(h(S(Z))))", deeper}, {"S(Z)", "f(g(h(S(T(Z)))))", deeper}, {"S(Z)", "f(Z,g(h(S(x))))", none},
		{"app(x,N)", "len(app(C(y,z),app(u,N)))", deeper}, {"app(x,N)", "C(A,app(N,C(x,app(N,y))))", none}, {"f(g(x))", "S(f(T(g(D(A,y)))))", deeper}, {"f(g(x))", "S(g(f(y)))", none}, {"f(g(x))", "f(S(S(S(g(x)))))", couples},
		{"f(g(x))", "f(h(h(g(h(h(y))))))", couples}, {"f(g(x))", "g(f(g(f(x))))", deeper}, {"S(S(Z))", "S(T(S(T(Z))))", couples}, {"S(S(S(Z)))", "S(T(S(T(Z))))", none}, {"T(T(Z))", "S(T(S(T(S(Z)))))", deeper},
		// What grows, and what does not.
		{"add(x,S(Z))", "add(y,S(S(Z)))", couples}, {"add(x,S(S(Z)))", "add(y,S(Z))", none}, {"app(app(x,y),z)", "app(app(app(u,x),y),z)", couples}, {"app(app(x,y),z)", "app(y,z)", none},
		{"app(app(x,y),z)", "app(C(v,app(w,y)),z)", couples}, {"app(x,app(y,z))", "app(app(x,y),z)", none}, {"app(x,N)", "app(S(y),C(Z,N))", couples}, {"len(app(x,y))", "len(C(N,app(u,z)))", couples},
		{"len(app(x,y))", "len(C(N,app(N,z)))", none}, {"len(app(x,y))", "S(len(app(t,y)))", deeper}, {"ev(dbl(x))", "od(S(dbl(x)))", none}, {"ev(dbl(x))", "ev(S(dbl(x)))", couples},
	} {
		a, b := exprOf(t, c.a), exprOf(t, c.b)
		checkFit(t, a, b, c.want)
		checkMeantFit(t, meanings{}, a, b)
		if c.want.embeds {
			checkFirst(t, []impl.Expr{a, b}, 0, 1, true)
		} else {
			checkFirst(t, []impl.Expr{a, b}, 0, 0, false)
		}
	}
}

// TestEmbeddingsOfOtherForms has nodes that no valid expression has.
func TestEmbeddingsOfOtherForms(t *testing.T) {
	n, x, y := con("N"), variable("x"), variable("y")
	stuckWith := func(name string, args ...impl.Expr) impl.Expr {
		return impl.Expr{Kind: impl.ExStuck, Name: name, Args: args}
	}
	for _, c := range []struct {
		a, b impl.Expr
		want fit
	}{
		// Variables are those without Args, whatever their Names.
		{variable(""), variable("\xff"), couples}, {variable("X"), x, couples}, {variable("Long name"), variable(""), couples}, {applied("x"), y, couples}, {impl.Expr{Kind: impl.ExVar, Args: []impl.Expr{}}, x, couples},
		// With Args, the Name counts.
		{applied("x", n), applied("x", n), couples}, {applied("x", n), applied("y", n), none}, {applied("x", y), applied("x", x), couples}, {applied("x", y), applied("y", x), none}, {applied("", n), applied("x", n), none},
		{applied("x", n), x, none}, {applied("x", y), y, none}, {x, applied("x", n), none}, {x, applied("x", y), deeper}, {x, applied("y", n, applied("x", n)), none}, {x, applied("y", n, applied("x", y)), deeper},
		{applied("x", n), applied("x", n, n), none}, {applied("x", n, n), applied("x", n), none}, {applied("x", n), applied("x", con("S", n)), couples}, {applied("x", con("S", n)), applied("x", n), none},
		{applied("x", n), applied("y", applied("x", n)), deeper}, {applied("x", n), con("x", n), none}, {applied("x", n), call("x", n), none}, {con("x", n), applied("x", n), none}, {call("x", n), applied("x", n), none},
		{con("C", x, applied("x", n)), con("C", n, applied("x", n)), none}, {con("C", x, applied("x", y)), con("C", applied("z", x), applied("x", x)), couples}, {applied("x", applied("y", x)), applied("x", applied("z", x)), none},
		// ExStuck with other fields.
		{stuck(), stuckWith("x"), none}, {stuckWith("x"), stuck(), none}, {stuckWith("x"), stuckWith("x"), couples}, {stuckWith("x"), stuckWith("y"), none}, {stuck(), stuckWith("", n), none}, {stuckWith("", n), stuck(), none},
		{stuck(), stuckWith("", stuck()), deeper}, {stuckWith("", n), stuckWith("", n), couples}, {stuckWith("", n), stuckWith("", con("S", n)), couples}, {stuckWith("", x), stuckWith("", n), none}, {stuckWith("", x), stuckWith("", y), couples},
		// Equal Names and numbers of Args with different Kinds.
		{call("N"), n, none}, {n, call("N"), none}, {call("N", x), con("N", x), none}, {con("N", x), call("N", x), none}, {con("f", x, y), call("f", x, y), none}, {variable("N"), n, none}, {n, variable("N"), none},
		{stuckWith("N"), n, none}, {stuckWith("N", x), call("N", x), none}, {con("", x), impl.Expr{Args: []impl.Expr{x}}, none}, {con("C", call("N", x)), con("C", con("N", call("N", y))), couples}, {call("N", n), con("N", call("N", n)), deeper},
		// Other Kinds.
		{impl.Expr{}, impl.Expr{}, couples}, {impl.Expr{}, stuck(), none}, {impl.Expr{}, x, none}, {x, impl.Expr{}, none}, {impl.Expr{}, con("C", x, impl.Expr{}), deeper}, {impl.Expr{Kind: -7, Name: "x"}, impl.Expr{Kind: -7, Name: "y"}, none},
		{impl.Expr{Kind: -7, Name: "x"}, impl.Expr{Kind: -7, Name: "x"}, couples}, {impl.Expr{Kind: 5, Args: []impl.Expr{x, n}}, impl.Expr{Kind: 5, Args: []impl.Expr{con("S", y), con("S", n)}}, couples},
		{impl.Expr{Kind: 5, Args: []impl.Expr{x, n}}, impl.Expr{Kind: 5, Args: []impl.Expr{n, x}}, none}, {impl.Expr{Kind: impl.ExVar + 1<<32, Name: "x"}, y, none}, {impl.Expr{Kind: -impl.ExVar, Name: "x"}, y, none}, {n, impl.Expr{Kind: 9, Args: []impl.Expr{n}}, deeper},
		// More Args than there may be.
		{con("Q", copies(20, x)...), con("Q", copies(20, con("S", y))...), couples}, {con("Q", copies(20, n)...), con("Q", append(copies(19, n), x)...), none}, {con("Q", copies(20, n)...), con("Q", copies(21, n)...), none}, {con("Q", copies(20, n)...), con("Q", append(copies(20, x), con("Q", copies(20, n)...))...), deeper},
	} {
		checkFit(t, c.a, c.b, c.want)
		checkMeantFit(t, meanings{}, c.a, c.b)
	}
}

// TestHeadsThatDiffer has all pairs of a few heads: both couple if nothing
// differs, and the Name does not count for variables.
func TestHeadsThatDiffer(t *testing.T) {
	var all []impl.Expr
	for _, kind := range []int{math.MinInt, -7, -1, 0, impl.ExVar, impl.ExCon, impl.ExCall, impl.ExStuck, 5, 257, math.MaxInt} {
		for _, name := range []string{"", "x", "y", "N", "\xff"} {
			for count := range 3 {
				all = append(all, impl.Expr{Kind: kind, Name: name, Args: copies(count, con("A"))})
			}
		}
	}
	for _, a := range all {
		for _, b := range all {
			want := none
			if a.Kind == b.Kind && len(a.Args) == len(b.Args) && (a.Name == b.Name || a.Kind == impl.ExVar && len(a.Args) == 0) {
				want = couples
			}
			checkFit(t, a, b, want)
			checkFit(t, con("C", con("A"), a), con("C", con("A"), b), want)
			checkFit(t, call("f", a), call("f", con("S", b)), want)
			checkFit(t, a, con("C", b, con("B")), fit{want.embeds, false})
		}
	}
}

// around has expressions that contain e, at different depths and indices.
func around(e impl.Expr) []impl.Expr {
	n, x := con("N"), variable("x")
	return []impl.Expr{
		con("Sss", e), call("fff", e), con("Ccc", e, n), con("Ccc", n, e), con("Ccc", e, e), call("fff", x, e, stuck()), call("fff", n, n, n, n, e), con("Sss", con("Sss", e)), con("Ccc", con("Sss", n), call("fff", con("Sss", e), n)),
		applied("x", e), applied("", n, e), {Kind: impl.ExStuck, Args: []impl.Expr{e}}, {Kind: -3, Name: "\xff", Args: []impl.Expr{n, con("Sss", e), n}}, con("Qqq", append(copies(30, n), e)...), tower(40, e),
		{Kind: e.Kind, Name: e.Name, Args: append(copies(len(e.Args), n), e)},
	}
}

// checkContained checks e and its parts against themselves, against each other
// and against what contains them.
func checkContained(t *testing.T, e impl.Expr) {
	t.Helper()
	for _, part := range nodesIn(&e) {
		if checkFit(t, *part, *part, couples); !impl.Embeds(*part, e) {
			t.Errorf("the part %s is not embedded in %s", textOf(*part), textOf(e))
		}
		checkFit(t, *part, cloneExpr(*part), couples)
		if len(nodesIn(part)) < len(nodesIn(&e)) {
			checkFit(t, e, *part, none)
			checkFirst(t, []impl.Expr{e, *part}, 0, 0, false)
		}
	}
	for _, whole := range around(e) {
		if !impl.Embeds(e, whole) || !impl.Embeds(cloneExpr(e), whole) {
			t.Errorf("%s is not embedded in %s", textOf(e), textOf(whole))
		}
		checkFit(t, whole, e, none)
		checkFirst(t, []impl.Expr{e, whole}, 0, 1, true)
		checkFirst(t, []impl.Expr{whole, e}, 0, 0, false)
	}
}

func TestExpressionsInWhatContainsThem(t *testing.T) {
	for _, text := range slices.Concat(strings.Fields("x N ! f() S(x) C(N,!) app(app(x,y),z) len(app(x,C(S(y),N))) e(h,n(t),m(t)) C(C(C(N,x),y),z) C(z,C(y,C(x,N)))"), rightTexts) {
		checkContained(t, exprOf(t, text))
	}
	for _, e := range smallExpressions(3) {
		checkContained(t, e)
	}
	state := uint32(5)
	for round := range 100 {
		checkContained(t, irregular(1+round%40, &state))
	}
	for _, e := range []impl.Expr{bushOf(sizeLimit), bushOf(sizeLimit + 1), tower(depthLimit, variable("x")), tower(depthLimit+1, con("N")), applied("x", bushOf(10), applied("y", variable("z")))} {
		checkContained(t, e)
	}
}

// TestNothingInSomethingSmaller has pairs of which the first has more nodes, by
// one or by more.
func TestNothingInSomethingSmaller(t *testing.T) {
	for size := 1; size <= 100; size++ {
		for smaller := 1; smaller < size; smaller++ {
			checkFit(t, bushOf(size), bushOf(smaller), none)
			if size <= depthLimit {
				checkFit(t, tower(size, variable("x")), tower(smaller, variable("y")), none)
			}
			checkFit(t, con("C", copies(size, variable("x"))...), con("C", copies(smaller, variable("y"))...), none)
		}
	}
	all := smallExpressions(3)
	for _, a := range all {
		for _, b := range all {
			if len(nodesIn(&a)) > len(nodesIn(&b)) && (impl.Embeds(a, b) || impl.Couples(a, b)) {
				t.Errorf("%s is embedded in %s or couples with it", textOf(a), textOf(b))
			}
		}
	}
}

func TestEmbeddingsOfSmallExpressions(t *testing.T) {
	t.Parallel()
	known, found := meanings{}, map[fit]int{}
	small := expressionsOver(3, variable("x"), variable("y"), con("x"), call("x"), stuck())
	for _, a := range small {
		for _, b := range small {
			found[checkMeantFit(t, known, a, b)]++
		}
	}
	next := numbersFrom(7)
	larger := expressionsOver(5, variable("x"), con("N"), call("f"))
	for range 100000 {
		found[checkMeantFit(t, known, small[next(len(small))], larger[next(len(larger))])]++
		found[checkMeantFit(t, known, larger[next(len(larger))], larger[next(len(larger))])]++
	}
	if found[couples] < 500 || found[deeper] < 500 || found[none] < 500 {
		t.Errorf("the pairs fit as %v", found)
	}
}

// grown is e with other nodes around some of its parts, so that e is embedded.
func grown(e impl.Expr, next func(int) int) impl.Expr {
	e = cloneExpr(e)
	for i := range e.Args {
		e.Args[i] = grown(e.Args[i], next)
	}
	switch next(6) {
	case 0:
		return con("N", e)
	case 1:
		return call("f", con("N"), e)
	case 2:
		return call("f", e, variable("z"))
	}
	return e
}

func TestEmbeddingsOfIrregularExpressions(t *testing.T) {
	t.Parallel()
	state, found := uint32(3), map[fit]int{}
	next := func(n int) int { return nextOf(&state, n) }
	for round := range 600 {
		known := meanings{}
		a := irregular(1+round%sizeLimit, &state)
		b := grown(a, next)
		if !impl.Embeds(a, b) {
			t.Errorf("%s is not embedded in %s", textOf(a), textOf(b))
		}
		found[checkMeantFit(t, known, a, b)]++
		nodes := nodesIn(&b)
		*nodes[next(len(nodes))] = con("M")
		found[checkMeantFit(t, known, a, b)]++
		found[checkMeantFit(t, known, b, a)]++
		found[checkMeantFit(t, known, irregular(1+round%10, &state), irregular(1+round%sizeLimit, &state))]++
		found[checkMeantFit(t, known, irregular(1+round%sizeLimit, &state), irregular(sizeLimit, &state))]++
	}
	if found[couples] < 100 || found[deeper] < 100 || found[none] < 100 {
		t.Errorf("the pairs fit as %v", found)
	}
}

// TestEmbeddingIsAnOrder follows an embedding by another one.
func TestEmbeddingIsAnOrder(t *testing.T) {
	state := uint32(9)
	next := func(n int) int { return nextOf(&state, n) }
	var all []impl.Expr
	for round := range 40 {
		e := irregular(1+round%12, &state)
		all = append(all, e, grown(e, next))
	}
	inner := make([][]int, len(all))
	for j := range all {
		for i := range all {
			if impl.Embeds(all[i], all[j]) {
				inner[j] = append(inner[j], i)
			}
		}
	}
	for j := range all {
		for _, i := range inner[j] {
			for _, at := range inner[i] {
				if !slices.Contains(inner[j], at) {
					t.Errorf("%s is embedded in %s, this in %s, but not the first in the last", textOf(all[at]), textOf(all[i]), textOf(all[j]))
				}
			}
		}
	}
}

// within stops the test if a call does not return in time.
func within(t *testing.T, limit time.Duration, what string, call func()) {
	t.Helper()
	done := make(chan bool)
	go func() {
		call()
		close(done)
	}()
	select {
	case <-done:
	case <-time.After(limit):
		t.Fatalf("%.500s: the call takes more than %v", what, limit)
	}
}

// checkFitWithin is checkFit for expressions that may be too large for a message.
func checkFitWithin(t *testing.T, limit time.Duration, what string, a impl.Expr, b impl.Expr, want fit) {
	t.Helper()
	var got fit
	within(t, limit, what, func() { got = fit{impl.Embeds(a, b), impl.Couples(a, b)} })
	if got != want {
		t.Errorf("%.500s: %+v, want %+v", what, got, want)
	}
}

// checkFirstWithin is checkFirst for such expressions.
func checkFirstWithin(t *testing.T, limit time.Duration, what string, list []impl.Expr, wantI int, wantJ int, want bool) {
	t.Helper()
	var i, j int
	var ok bool
	within(t, limit, what, func() { i, j, ok = impl.FirstEmbedded(list) })
	if i != wantI || j != wantJ || ok != want {
		t.Errorf("FirstEmbedded of %s = %d, %d, %v, want %d, %d, %v", what, i, j, ok, wantI, wantJ, want)
	}
}

// A spine is an expression of so many levels, with the next level at one index,
// or at each of them, and sides at the others.
func spine(levels int, count int, index int, side impl.Expr, last impl.Expr) impl.Expr {
	for range levels - 1 {
		args := copies(count, side)
		args[index] = last
		last = con("C", args...)
	}
	return last
}

// TestPairsOfPartsThatOccurAgain has expressions for which there are very many
// ways to the same pair of parts.
func TestPairsOfPartsThatOccurAgain(t *testing.T) {
	n, m, x := con("N"), con("M"), variable("x")
	for _, levels := range []int{depthLimit / 2, depthLimit - 1, depthLimit, 60, 100, 200} {
		for count := 1; count <= argsLimit; count++ {
			for index := range count {
				what := "a spine of " + strconv.Itoa(levels) + " levels with index " + strconv.Itoa(index) + " of " + strconv.Itoa(count)
				a := spine(levels/2, count, index, n, x)
				checkFitWithin(t, time.Second, what, a, spine(levels, count, index, n, n), none)
				checkFitWithin(t, time.Second, what, a, spine(levels, count, index, n, con("S", variable("y"))), couples)
				checkFitWithin(t, time.Second, what, spine(levels, count, index, n, m), spine(levels, count, index, n, n), none)
				checkFitWithin(t, time.Second, what, spine(levels+1, count, index, n, x), spine(levels, count, index, n, x), none)
				checkFitWithin(t, time.Second, what, spine(levels, count, index, x, n), con("S", con("S", spine(levels, count, index, variable("y"), n))), deeper)
			}
		}
		what := "dense with " + strconv.Itoa(levels) + " levels"
		checkFitWithin(t, time.Second, what, dense(levels, x), dense(levels, variable("y")), couples)
		checkFitWithin(t, time.Second, what, dense(levels/2, x), dense(levels, n), none)
		checkFitWithin(t, time.Second, what, dense(levels/2, n), denseBut(levels, n, m), couples)
		checkFitWithin(t, time.Second, what, denseBut(levels/2, n, m), dense(levels, n), none)
		checkFitWithin(t, time.Second, what, denseBut(levels/2, n, x), denseBut(levels, n, m), none)
		checkFitWithin(t, time.Second, what, dense(levels, n), denseBut(levels, n, m), none)
		checkFitWithin(t, time.Second, what, dense(levels, n), call("f", dense(levels, n)), deeper)
		checkFitWithin(t, time.Second, what, dense(levels, n), dense(levels-1, n), none)
	}
}

// full is an expression of MaxSize nodes in MaxDepth levels: a spine whose index
// changes from level to level.
func full(side impl.Expr, last impl.Expr, shift int) impl.Expr {
	for level := range depthLimit - 1 {
		// Ten of the 23 levels have three sides, and the others two.
		sides := 2
		if level*10%23 < 10 {
			sides = 3
		}
		args := slices.Insert(copies(sides, side), (level+shift)%(sides+1), last)
		last = con("C"+strconv.Itoa(sides), args...)
	}
	return last
}

// TestEmbeddingsAtTheLimits has pairs of valid expressions that are as large and
// as deep as can be.
func TestEmbeddingsAtTheLimits(t *testing.T) {
	n, m, x := con("N"), con("M"), variable("x")
	var all []impl.Expr
	for shift := range 4 {
		for _, side := range []impl.Expr{n, x} {
			for _, last := range []impl.Expr{n, m, x} {
				e := full(side, last, shift)
				if !impl.IsValidExpr(e) || impl.SizeOf(e) != sizeLimit || impl.DepthOf(e) != depthLimit {
					t.Fatalf("%d nodes in %d levels", impl.SizeOf(e), impl.DepthOf(e))
				}
				all = append(all, e)
			}
		}
	}
	known := meanings{}
	for _, a := range all {
		for _, b := range all {
			want := fit{known.embeds(a, b), known.couples(a, b)}
			checkFitWithin(t, time.Second, textOf(a)+" and "+textOf(b), a, b, want)
		}
	}
	checkFirst(t, all[:0], 0, 0, false)
	checkMeantFirst(t, known, all)
	slices.Reverse(all)
	checkMeantFirst(t, known, all)
}

// listOf reads expressions that are separated by spaces.
func listOf(t *testing.T, text string) []impl.Expr {
	t.Helper()
	var list []impl.Expr
	for _, field := range strings.Fields(text) {
		list = append(list, exprOf(t, field))
	}
	return list
}

func TestFirstEmbedded(t *testing.T) {
	for _, c := range []struct {
		list string
		i, j int
		want bool
	}{
		// Too few elements, and none that is embedded in one behind it.
		{"", 0, 0, false}, {"x", 0, 0, false}, {"app(app(x,y),app(x,y))", 0, 0, false}, {"N M", 0, 0, false}, {"S(x) x", 0, 0, false}, {"S(S(x)) S(x) x", 0, 0, false}, {"C(A,B) C(B,A) A B", 0, 0, false}, {"C(A,B) S(A) S(B) A B", 0, 0, false},
		{"f(x) g(x) f(N) g(!) f() N ! x", 0, 0, false}, {"app(x,app(y,z)) app(app(x,y),z) app(x,y) app(N,x) x", 0, 0, false}, {"S(S(S(Z))) S(S(T(Z))) S(T(S(Z))) T(S(S(Z))) S(S(Z))", 0, 0, false},
		// One pair.
		{"x y", 0, 1, true}, {"N N", 0, 1, true}, {"! !", 0, 1, true}, {"x S(x)", 0, 1, true}, {"N f(N) ", 0, 1, true}, {"app(x,y) len(x) S(app(x,y))", 0, 2, true}, {"N x S(N)", 0, 2, true}, {"x N S(N)", 1, 2, true}, {"x N S(y)", 0, 2, true},
		{"S(A) T(B) D S(S(S(x))) E E", 4, 5, true}, {"A B D E F f(!) S(F)", 4, 6, true}, {"S(S(A)) S(A) A T(A)", 2, 3, true}, {"A B D E F G S(A)", 0, 6, true}, {"D C(B,A) C(A,B) C(A,S(A))", 0, 0, false}, {"D C(B,A) C(A,B) C(A,C(S(A),B))", 2, 3, true},
		// Several pairs: the least j, and then the least i.
		{"N N N", 0, 1, true}, {"x y z", 0, 1, true}, {"A B C(A,B) S(B)", 0, 2, true}, {"A B C(D,B) S(A)", 1, 2, true}, {"A B S(B) S(A)", 1, 2, true}, {"A B D S(D) S(B) S(A)", 2, 3, true}, {"A B D C(D,B) S(A)", 1, 3, true}, {"A B D C(D,A)", 0, 3, true},
		{"D A B C(B,A) C(D,D)", 1, 3, true}, {"S(S(x)) S(x) x S(y)", 1, 3, true}, {"S(S(x)) S(x) x S(S(y))", 0, 3, true}, {"S(S(x)) S(x) x f(y)", 2, 3, true}, {"S(A) T(B) D A T(B) S(A)", 1, 4, true}, {"S(A) T(B) D A S(A) T(B)", 0, 4, true},
		{"A B D E S(E) S(D) S(B) S(A)", 3, 4, true}, {"A B D E C(A,B) A A", 0, 4, true}, {"A f(x) D f(y) A A", 1, 3, true}, {"C(A,B) C(B,A) C(A,C(B,A)) C(A,B)", 0, 2, true}, {"C(A,B) C(B,A) C(D,C(B,A)) C(A,B)", 1, 2, true},
	} {
		checkFirst(t, listOf(t, c.list), c.i, c.j, c.want)
		checkMeantFirst(t, meanings{}, listOf(t, c.list))
	}
	checkFirst(t, nil, 0, 0, false)
	checkFirst(t, []impl.Expr{}, 0, 0, false)
	checkFirst(t, []impl.Expr{{}}, 0, 0, false)
	checkFirst(t, []impl.Expr{{}, {}}, 0, 1, true)
	checkFirst(t, []impl.Expr{applied("x", con("N")), applied("y", con("N")), variable("z"), applied("x", con("M")), applied("y", con("N"))}, 1, 4, true)
}

// TestFirstEmbeddedOfAllShortLists has all lists of up to five elements over a
// few expressions.
func TestFirstEmbeddedOfAllShortLists(t *testing.T) {
	known, found := meanings{}, map[bool]int{}
	all := listOf(t, "x N S(x) S(N) C(N,x) f(S(N))")
	lists := [][]impl.Expr{nil}
	for at := 0; at < len(lists); at++ {
		found[checkMeantFirst(t, known, lists[at])]++
		if len(lists[at]) < 5 {
			for _, e := range all {
				lists = append(lists, append(slices.Clone(lists[at]), e))
			}
		}
	}
	if found[true] < 1000 || found[false] < 100 {
		t.Errorf("the lists have an embedded element or none: %v", found)
	}
}

func TestFirstEmbeddedOfIrregularLists(t *testing.T) {
	state, found := uint32(17), map[bool]int{}
	for round := range 1000 {
		var list []impl.Expr
		for size := 2 + round%30; size > 0; size -= 1 + nextOf(&state, 4) {
			list = append(list, irregular(size, &state))
			if nextOf(&state, 12) == 0 {
				list = append(list, grown(list[nextOf(&state, len(list))], func(n int) int { return nextOf(&state, n) }))
			}
		}
		found[checkMeantFirst(t, meanings{}, list)]++
	}
	if found[true] < 100 || found[false] < 100 {
		t.Errorf("the lists have an embedded element or none: %v", found)
	}
}

// TestFirstEmbeddedOfLongLists has lists in which only the last pair is, or only
// one with an element somewhere before it.
func TestFirstEmbeddedOfLongLists(t *testing.T) {
	const count = 1000
	var list, towers []impl.Expr
	for i := range count {
		name := "N" + strconv.Itoa(i)
		list = append(list, []impl.Expr{con(name), call(name), con("S", con(name)), con("C", call("g", con(name)), variable("x"))}[i%4])
	}
	checkFirstWithin(t, time.Minute, "a long list", list, 0, 0, false)
	for _, at := range []int{0, 1, 2, 3, count / 2, count - 2, count - 1} {
		last := con("R", con("N"), list[at])
		checkFirstWithin(t, time.Minute, "a long list and one more", append(slices.Clone(list), last), at, count, true)
		checkFirstWithin(t, time.Minute, "a long list and two more", append(slices.Clone(list), last, list[0]), at, count, true)
	}
	for depth := 100; depth > 0; depth-- {
		towers = append(towers, spine(depth, 1, 0, con("N"), con("N")))
	}
	checkFirstWithin(t, time.Minute, "lower and lower towers", towers, 0, 0, false)
	checkFirstWithin(t, time.Minute, "towers and the last but one", append(slices.Clone(towers), towers[98]), 98, 100, true)
	checkFirstWithin(t, time.Minute, "towers and the first one", append(slices.Clone(towers), towers[0]), 0, 100, true)
	slices.Reverse(towers)
	checkFirstWithin(t, time.Minute, "higher and higher towers", towers, 0, 1, true)
}

func TestEmbeddingsOfVeryDeepExpressions(t *testing.T) {
	const depth = 100000
	n, m, x := con("N"), con("M"), variable("x")
	deep := tower(depth, n)
	for _, c := range []struct {
		what string
		a, b impl.Expr
		want fit
	}{
		{"equal towers", deep, tower(depth, n), couples}, {"towers with variables", tower(depth, x), tower(depth, variable("y")), couples}, {"a lower tower", tower(depth-2, n), deep, couples}, {"a lower tower of another head", tower(depth-1, n), deep, deeper},
		{"a half of a tower", tower(depth/2, n), deep, couples}, {"a higher tower", tower(depth+2, n), deep, none}, {"another last node", tower(depth, m), deep, none}, {"half, with another last node", tower(depth/2, m), deep, none},
		{"the last node", n, deep, deeper}, {"another node", m, deep, none}, {"a part of one that contains it", deep, con("C", x, deep), deeper}, {"one that contains it", con("C", x, deep), con("C", deep, x), none},
		{"towers with sides", spine(depth, 2, 1, n, x), spine(depth, 2, 1, n, n), none}, {"towers with sides of variables", spine(depth, 2, 0, x, n), spine(depth, 2, 0, variable("y"), n), couples}, {"another side", spine(depth, 2, 0, n, n), spine(depth, 2, 0, m, n), none},
	} {
		checkFitWithin(t, time.Minute, c.what, c.a, c.b, c.want)
	}
	checkFirstWithin(t, time.Minute, "very deep expressions", []impl.Expr{deep, m, tower(depth, m), tower(depth+2, n), deep}, 1, 2, true)
}

func TestEmbeddingsOfVeryWideExpressions(t *testing.T) {
	const width = 100000
	n, m, x := con("N"), con("M"), variable("x")
	wide := con("Q", copies(width, n)...)
	other := con("Q", append(copies(width-1, n), m)...)
	checkFitWithin(t, time.Minute, "equal ones", wide, con("Q", copies(width, n)...), couples)
	checkFitWithin(t, time.Minute, "larger Args", wide, con("Q", copies(width, con("S", n))...), couples)
	checkFitWithin(t, time.Minute, "another last Arg", wide, other, none)
	checkFitWithin(t, time.Minute, "an Arg more", wide, con("Q", copies(width+1, n)...), none)
	checkFitWithin(t, time.Minute, "a part", wide, con("Q", append(copies(width, x), wide)...), deeper)
	checkFitWithin(t, time.Minute, "the last Arg of all", m, con("Q", wide, wide, other), deeper)
	for i := range wide.Args {
		wide.Args[i] = con("S", con("N"+strconv.Itoa(i)))
	}
	checkFitWithin(t, time.Minute, "different Args", wide, cloneExpr(wide), couples)
	checkFitWithin(t, time.Minute, "different Args below another", wide, call("f", cloneExpr(wide)), deeper)
	checkFitWithin(t, time.Minute, "the Name of the last Arg", con("N"+strconv.Itoa(width-1)), wide, deeper)
}

// meantOfGraph says which nodes of a graph are embedded in which, as chapter 9
// has it if a pair may couple without an end, but what is embedded in an Arg is
// found at the end of finitely many Args.
func meantOfGraph(heads []impl.Expr, args [][]int) [][]bool {
	known := squareOf(len(heads), true)
	for {
		next := squareOf(len(heads), false)
		for isChanged := true; isChanged; {
			isChanged = false
			for a := range heads {
				for b := range heads {
					if !next[a][b] && (couplesInGraph(heads, args, known, a, b) || slices.ContainsFunc(args[b], func(arg int) bool { return next[a][arg] })) {
						next[a][b], isChanged = true, true
					}
				}
			}
		}
		if slices.EqualFunc(next, known, slices.Equal) {
			return known
		}
		known = next
	}
}

func squareOf(size int, all bool) [][]bool {
	var square [][]bool
	for range size {
		square = append(square, slices.Repeat([]bool{all}, size))
	}
	return square
}

func couplesInGraph(heads []impl.Expr, args [][]int, embeds [][]bool, a int, b int) bool {
	if heads[a].Kind != heads[b].Kind || len(args[a]) != len(args[b]) || heads[a].Name != heads[b].Name && (heads[a].Kind != impl.ExVar || len(args[a]) > 0) {
		return false
	}
	for i := range args[a] {
		if !embeds[args[a][i]][args[b][i]] {
			return false
		}
	}
	return true
}

// graphOf is the expressions whose Args are the nodes with these numbers.
func graphOf(heads []impl.Expr, args [][]int) []impl.Expr {
	nodes := slices.Clone(heads)
	for at := range nodes {
		nodes[at].Args = make([]impl.Expr, len(args[at]))
	}
	for at := range nodes {
		for i, arg := range args[at] {
			nodes[at].Args[i] = nodes[arg]
		}
	}
	return nodes
}

// anyGraph is a graph of so many nodes, with the first ones of a few heads.
func anyGraph(count int, most int, next func(int) int) (heads []impl.Expr, args [][]int) {
	for range count {
		heads = append(heads, []impl.Expr{con("S"), con("T"), con("N"), call("S"), variable("x"), variable("y")}[next(most)])
		args = append(args, nil)
		for range next(3) {
			args[len(args)-1] = append(args[len(args)-1], next(count))
		}
	}
	return heads, args
}

// TestEmbeddingsOfGraphs has expressions of which most are parts of themselves.
func TestEmbeddingsOfGraphs(t *testing.T) {
	t.Parallel()
	next, found := numbersFrom(21), map[fit]int{}
	for round := range 3000 {
		count := 1 + round%7
		heads, args := anyGraph(count, 2+round%5, next)
		embeds, nodes, others := meantOfGraph(heads, args), graphOf(heads, args), graphOf(heads, args)
		for a := range nodes {
			for b := range nodes {
				want := fit{embeds[a][b], couplesInGraph(heads, args, embeds, a, b)}
				found[want]++
				for _, other := range []impl.Expr{nodes[b], others[b]} {
					if got := (fit{impl.Embeds(nodes[a], other), impl.Couples(nodes[a], other)}); got != want {
						t.Fatalf("nodes %d and %d of %v with %v: %+v, want %+v", a, b, args, namesIn(heads), got, want)
					}
				}
			}
		}
	}
	if found[couples] < 1000 || found[deeper] < 1000 || found[none] < 1000 {
		t.Errorf("the pairs fit as %v", found)
	}
}

func namesIn(list []impl.Expr) []string {
	var names []string
	for _, e := range list {
		names = append(names, strconv.Itoa(e.Kind)+e.Name)
	}
	return names
}

// TestEmbeddingsOfEndlessExpressions has arguments that no call could go through
// node by node.
func TestEmbeddingsOfEndlessExpressions(t *testing.T) {
	n, x := con("N"), variable("x")
	turns := func(names ...string) impl.Expr {
		var heads []impl.Expr
		var args [][]int
		for i, name := range names {
			heads, args = append(heads, con(name)), append(args, []int{(i + 1) % len(names)})
		}
		return graphOf(heads, args)[0]
	}
	for _, c := range []struct {
		what string
		a, b impl.Expr
		want fit
	}{
		{"rings", ring(1), ring(1), couples}, {"rings of different sizes", ring(3), ring(4), couples}, {"larger rings", ring(150), ring(151), couples}, {"a ring in a part", ring(3), con("C", n, ring(2)), deeper}, {"a ring in what has an end", ring(3), tower(1000, n), none},
		{"a leaf in a ring", n, ring(3), none}, {"a tower in a ring", spine(100, 1, 0, n, n), ring(3), none}, {"a ring in itself with others", turns("S"), turns("S", "T"), couples}, {"another ring", turns("S", "T"), turns("S"), none}, {"turns", turns("S", "T"), turns("T", "S"), deeper},
		{"longer turns", turns("S", "S", "T"), turns("T", "S"), deeper}, {"turns with another", turns("S", "U", "T"), turns("T", "S"), none}, {"lists", endlessList(n), endlessList(n), couples}, {"lists of variables", endlessList(x), endlessList(variable("y")), couples},
		{"lists of larger ones", endlessList(n), endlessList(con("S", n)), couples}, {"lists of smaller ones", endlessList(con("S", n)), endlessList(n), none}, {"a list in a list", endlessList(n), endlessList(endlessList(n)), couples}, {"the beginning of a list", con("C", n, con("C", n, n)), endlessList(n), couples},
		{"a list with another end", con("C", n, con("C", n, con("M"))), endlessList(n), none}, {"a list in its beginning", endlessList(n), con("C", n, con("C", n, n)), none}, {"a variable in a list", x, endlessList(n), none}, {"an element of a list", con("S", x), endlessList(con("T", con("S", x))), deeper},
		{"dense lists", endlessList(dense(100, n)), endlessList(dense(100, n)), couples}, {"a large expression and a list", dense(100, n), endlessList(n), none}, {"a Name of a million bytes", call(strings.Repeat("f", 1000000), n), call(strings.Repeat("f", 1000000), n), couples},
	} {
		checkFitWithin(t, time.Minute, c.what, c.a, c.b, c.want)
	}
	checkFirstWithin(t, time.Minute, "rings", []impl.Expr{ring(2), n, ring(3)}, 0, 2, true)
	checkFirstWithin(t, time.Minute, "other rings", []impl.Expr{n, ring(1), endlessList(x), con("D", ring(2))}, 1, 3, true)
	checkFirstWithin(t, time.Minute, "turns", []impl.Expr{turns("S", "T"), ring(2), endlessList(n), turns("T", "S", "S")}, 0, 3, true)
	checkFirstWithin(t, time.Minute, "different ones", []impl.Expr{turns("S", "T"), ring(2), endlessList(n), dense(200, x)}, 0, 0, false)
	wide := con("C", make([]impl.Expr, 1000)...)
	for i := range wide.Args {
		wide.Args[i] = con("C", wide.Args...)
	}
	checkFitWithin(t, time.Minute, "itself in all Args", wide, con("C", slices.Clone(wide.Args)...), couples)
}

// TestEmbeddingsOfSharedParts has parts that lie at the same place, but are not
// the same.
func TestEmbeddingsOfSharedParts(t *testing.T) {
	known, args := meanings{}, []impl.Expr{con("A"), con("S", con("A")), variable("x"), con("A")}
	var all []impl.Expr
	for _, head := range []impl.Expr{con("C"), con("D"), call("C"), applied("C"), applied("x"), stuck(), {}} {
		for from := range len(args) {
			for to := from; to <= len(args); to++ {
				all = append(all, impl.Expr{Kind: head.Kind, Name: head.Name, Args: args[from:to]})
			}
		}
	}
	for i, a := range all {
		for j, b := range all {
			checkMeantFit(t, known, a, b)
			checkMeantFit(t, known, con("P", a, b), con("P", all[(i+j)%len(all)], b))
			checkMeantFirst(t, known, []impl.Expr{con("P", a, b), a, b, con("P", b, a)})
		}
	}
}

// TestEmbeddingsLeaveArgumentsAlone covers promise 34 for chapter 9.
func TestEmbeddingsLeaveArgumentsAlone(t *testing.T) {
	x, y := variable("x"), variable("y")
	args := []impl.Expr{x, call("f", y), con("S", con("N")), con("Rest"), con("More")}
	part := con("C", args[:3]...)
	more := []impl.Expr{part, con("D", args[:2]...), con("S", part), part, con("Rest", x), applied("More", y)}
	whole := call("g", more[:3]...)
	list := []impl.Expr{whole, con("S", whole), con("C", args[1:4]...), part, x, con("D", more[1:3]...), call("g", more[:4]...), con("Rest"), con("More", x)}
	known, before := meanings{}, wholeText(con("", list...))
	for range 2 {
		for _, a := range list {
			for _, b := range list {
				checkMeantFit(t, known, a, b)
			}
		}
		for from := range 7 {
			for to := from; to <= 7; to++ {
				checkMeantFirst(t, known, list[from:to])
			}
		}
		if after := wholeText(con("", list...)); after != before {
			t.Fatalf("the arguments became %s, before %s", after, before)
		}
	}
}
