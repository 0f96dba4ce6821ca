package tests

import (
	"slices"
	"strconv"
	"strings"
	"testing"

	"loop.example/g00584/impl"
)

const (
	sizeLimit  = 80
	depthLimit = 24
	argsLimit  = 5
)

func variable(name string) impl.Expr { return impl.Expr{Kind: impl.ExVar, Name: name} }

func con(name string, args ...impl.Expr) impl.Expr {
	return impl.Expr{Kind: impl.ExCon, Name: name, Args: args}
}

func call(name string, args ...impl.Expr) impl.Expr {
	return impl.Expr{Kind: impl.ExCall, Name: name, Args: args}
}

func stuck() impl.Expr { return impl.Expr{Kind: impl.ExStuck} }

// copies is n times e, in memory of their own.
func copies(n int, e impl.Expr) []impl.Expr {
	var list []impl.Expr
	for range n {
		list = append(list, cloneExpr(e))
	}
	return list
}

func cloneExpr(e impl.Expr) impl.Expr {
	args := slices.Clone(e.Args)
	for i := range args {
		args[i] = cloneExpr(args[i])
	}
	return impl.Expr{Kind: e.Kind, Name: e.Name, Args: args}
}

// tower is inner below so many nodes that depth is reached if inner has no Args.
func tower(depth int, inner impl.Expr) impl.Expr {
	for n := 1; n < depth; n++ {
		if n%2 == 0 {
			inner = con("S", inner)
		} else {
			inner = call("f", inner)
		}
	}
	return inner
}

// bushOf is an expression of so many nodes of which the Args are as even as can be.
func bushOf(size int) impl.Expr {
	e := con("B")
	for left := size - 1; left > 0; {
		part := (left + argsLimit - len(e.Args) - 1) / (argsLimit - len(e.Args))
		e.Args = append(e.Args, bushOf(part))
		left -= part
	}
	return e
}

func TestLimitsOfExpressions(t *testing.T) {
	if impl.MaxSize != sizeLimit || impl.MaxDepth != depthLimit || impl.MaxArgs != argsLimit {
		t.Errorf("MaxSize %d, MaxDepth %d, MaxArgs %d", impl.MaxSize, impl.MaxDepth, impl.MaxArgs)
	}
	if impl.ExVar != 1 || impl.ExCon != 2 || impl.ExCall != 3 || impl.ExStuck != 4 {
		t.Errorf("kinds %d, %d, %d, %d", impl.ExVar, impl.ExCon, impl.ExCall, impl.ExStuck)
	}
}

// facts is what chapter 3 says of one expression.
type facts struct {
	size, depth, calls int
	valid, data        bool
	vars               string
}

func checkFacts(t *testing.T, e impl.Expr, want facts) {
	t.Helper()
	got := facts{
		impl.SizeOf(e), impl.DepthOf(e), impl.CallsOf(e),
		impl.IsValidExpr(e), impl.IsData(e),
		strings.Join(impl.VarsOf(e), ","),
	}
	if got != want {
		t.Errorf("%.200s: %+v, want %+v", textOf(e), got, want)
	}
}

// textOf shows an expression in a message, whatever its fields are.
func textOf(e impl.Expr) string {
	var args []string
	for _, part := range e.Args {
		args = append(args, textOf(part))
	}
	return strconv.Itoa(e.Kind) + strconv.Quote(e.Name) + "(" + strings.Join(args, " ") + ")"
}

func TestOrdinaryExpressions(t *testing.T) {
	x, y, n := variable("x"), variable("y"), con("N")
	checkFacts(t, x, facts{1, 1, 0, true, false, "x"})
	checkFacts(t, n, facts{1, 1, 0, true, true, ""})
	checkFacts(t, stuck(), facts{1, 1, 0, true, false, ""})
	checkFacts(t, call("f"), facts{1, 1, 1, true, false, ""})
	checkFacts(t, con("C", n, con("S", n)), facts{4, 3, 0, true, true, ""})
	checkFacts(t, con("C", con("S", n), n), facts{4, 3, 0, true, true, ""})
	checkFacts(t, con("C", x, n), facts{3, 2, 0, true, false, "x"})
	checkFacts(t, con("C", n, stuck()), facts{3, 2, 0, true, false, ""})
	checkFacts(t, con("C", n, call("f")), facts{3, 2, 1, true, false, ""})
	checkFacts(t, call("app", x, con("C", x, n)), facts{5, 3, 1, true, false, "x"})
	checkFacts(t, call("app", call("app", x, y), variable("z")), facts{5, 3, 2, true, false, "x,y,z"})
	checkFacts(t, call("app", variable("z"), call("app", y, x)), facts{5, 3, 2, true, false, "z,y,x"})
	checkFacts(t, call("f", stuck(), call("g"), con("N"), x), facts{5, 2, 2, true, false, "x"})
	checkFacts(t, con("C", call("f", call("f", call("f")))), facts{4, 4, 3, true, false, ""})
	checkFacts(t, call("f", n, n, con("S", con("S", n)), n, n), facts{8, 4, 1, true, false, ""})
	checkFacts(t, con("C", con("D", n, n), con("S", con("S", n))), facts{7, 4, 0, true, true, ""})
	checkFacts(t, con("C", con("S", con("S", n)), con("D", n, n)), facts{7, 4, 0, true, true, ""})
}

func TestSizeLimit(t *testing.T) {
	for size := 1; size <= 3*sizeLimit; size++ {
		e := bushOf(size)
		fits := size <= sizeLimit
		checkFacts(t, e, facts{size, impl.DepthOf(e), 0, fits, fits, ""})
	}
	// Both limits are reached at once, and one of them is exceeded.
	full := con("C", tower(depthLimit-1, con("N")), bushOf(sizeLimit-depthLimit))
	checkFacts(t, full, facts{sizeLimit, depthLimit, 11, true, false, ""})
	large := con("C", tower(depthLimit-1, con("N")), bushOf(sizeLimit-depthLimit+1))
	checkFacts(t, large, facts{sizeLimit + 1, depthLimit, 11, false, false, ""})
	deep := con("C", tower(depthLimit, con("N")), bushOf(sizeLimit-depthLimit-1))
	checkFacts(t, deep, facts{sizeLimit, depthLimit + 1, 12, false, false, ""})
	for _, leaf := range []impl.Expr{variable("x"), con("N"), call("f"), stuck()} {
		e := con("C", bushOf(sizeLimit-2), leaf)
		if !impl.IsValidExpr(e) || impl.SizeOf(e) != sizeLimit {
			t.Errorf("%s with a bush has size %d", textOf(leaf), impl.SizeOf(e))
		}
		e.Args = append(e.Args, leaf)
		if impl.IsValidExpr(e) || impl.SizeOf(e) != sizeLimit+1 {
			t.Errorf("twice %s with a bush has size %d", textOf(leaf), impl.SizeOf(e))
		}
	}
}

func TestDepthLimit(t *testing.T) {
	for depth := 1; depth <= 3*depthLimit; depth++ {
		fits := depth <= depthLimit
		checkFacts(t, tower(depth, con("N")), facts{depth, depth, depth / 2, fits, fits && depth == 1, ""})
		data := con("N")
		for range depth - 1 {
			data = con("S", data)
		}
		checkFacts(t, data, facts{depth, depth, 0, fits, fits, ""})
		for _, leaf := range []impl.Expr{variable("x"), con("N"), call("f"), stuck()} {
			if e := tower(depth, leaf); impl.IsValidExpr(e) != fits || impl.DepthOf(e) != depth {
				t.Errorf("depth %d: DepthOf = %d, IsValidExpr = %v", depth, impl.DepthOf(e), impl.IsValidExpr(e))
			}
		}
	}
	for _, depth := range []int{depthLimit - 1, depthLimit} {
		for at := range argsLimit {
			e := con("C", copies(argsLimit, con("N"))...)
			e.Args[at] = tower(depth, con("N"))
			fits := depth < depthLimit
			checkFacts(t, e, facts{argsLimit + depth, depth + 1, depth / 2, fits, false, ""})
		}
	}
}

func TestArgsLimit(t *testing.T) {
	for args := 0; args <= 3*argsLimit; args++ {
		fits := args <= argsLimit
		depth := 1 + min(args, 1)
		c := con("C", copies(args, con("N"))...)
		f := call("f", copies(args, con("N"))...)
		checkFacts(t, c, facts{args + 1, depth, 0, fits, fits, ""})
		checkFacts(t, f, facts{args + 1, depth, 1, fits, false, ""})
		checkFacts(t, con("C", con("N"), c), facts{args + 3, depth + 1, 0, fits, fits, ""})
		checkFacts(t, call("f", f, con("N")), facts{args + 3, depth + 1, 2, fits, false, ""})
	}
}

func TestFormsThatAreNone(t *testing.T) {
	x, n := variable("x"), con("N")
	none := []struct {
		e    impl.Expr
		want facts
	}{
		{impl.Expr{}, facts{1, 1, 0, false, false, ""}},
		{impl.Expr{Kind: impl.ExVar, Name: "x", Args: []impl.Expr{n}}, facts{2, 2, 0, false, false, "x"}},
		{impl.Expr{Kind: impl.ExVar, Name: "x", Args: []impl.Expr{variable("y"), x}}, facts{3, 2, 0, false, false, "x,y"}},
		{impl.Expr{Kind: impl.ExStuck, Name: "x"}, facts{1, 1, 0, false, false, ""}},
		{impl.Expr{Kind: impl.ExStuck, Name: "N"}, facts{1, 1, 0, false, false, ""}},
		{impl.Expr{Kind: impl.ExStuck, Name: "!"}, facts{1, 1, 0, false, false, ""}},
		{impl.Expr{Kind: impl.ExStuck, Args: []impl.Expr{n}}, facts{2, 2, 0, false, false, ""}},
		{impl.Expr{Kind: impl.ExStuck, Args: []impl.Expr{x, call("f")}}, facts{3, 2, 1, false, false, "x"}},
	}
	for _, kind := range []int{0, -1, 5, 6, 256, 257, 258, 1 << 32, 1<<32 + 2, -1 << 63, 1<<63 - 1} {
		for _, name := range []string{"", "x", "N"} {
			e := impl.Expr{Kind: kind, Name: name}
			none = append(none, []struct {
				e    impl.Expr
				want facts
			}{
				{e, facts{1, 1, 0, false, false, ""}},
				{impl.Expr{Kind: kind, Name: name, Args: []impl.Expr{x, call("g", n)}}, facts{4, 3, 1, false, false, "x"}},
			}...)
		}
	}
	for _, c := range none {
		checkFacts(t, c.e, c.want)
		inner := c.want
		inner.size, inner.depth = inner.size+2, inner.depth+1
		checkFacts(t, con("C", c.e, n), inner)
		checkFacts(t, con("C", n, c.e), inner)
	}
}

func TestNamesOfExpressions(t *testing.T) {
	names := []string{
		"a", "x1", "zzzzzz", "a00000", "A", "X1", "Zzzzzz", "A00000",
		"", "aaaaaaa", "Aaaaaaa", strings.Repeat("a", 1000), strings.Repeat("A", 1000),
		"1", "9a", "aB", "AB", "a_", "a b", "a(", "!", "a\x00", "\u00e4", "\u00c4a", "a\xff", "\xff",
	}
	for b := range 256 {
		names = append(names, string([]byte{byte(b)}))
	}
	for _, name := range names {
		isName, isCon := impl.IsName(name), impl.IsConName(name)
		checkFacts(t, variable(name), facts{1, 1, 0, isName, false, name})
		checkFacts(t, call(name), facts{1, 1, 1, isName, false, ""})
		checkFacts(t, con(name), facts{1, 1, 0, isCon, isCon, ""})
		checkFacts(t, con("C", con("N"), variable(name)), facts{3, 2, 0, isName, false, name})
		checkFacts(t, con("C", call(name, con("N"))), facts{3, 3, 1, isName, false, ""})
		checkFacts(t, con("C", con(name, con("N"))), facts{3, 3, 0, isCon, isCon, ""})
		checkFacts(t, con(name, con("N")), facts{2, 2, 0, isCon, isCon, ""})
		checkFacts(t, call(name, variable("x")), facts{2, 2, 1, isName, false, "x"})
	}
}

func TestVariablesThatOccurAgain(t *testing.T) {
	x, y, z := variable("x"), variable("y"), variable("z")
	cases := []struct {
		e    impl.Expr
		want []string
	}{
		{con("C", x, x), []string{"x"}},
		{call("f", x, x, x, x, x), []string{"x"}},
		{con("C", x, y, x), []string{"x", "y"}},
		{con("C", y, x, y, x), []string{"y", "x"}},
		{con("C", y, y, x, x), []string{"y", "x"}},
		{con("C", x, con("S", x)), []string{"x"}},
		{con("C", con("S", x), x), []string{"x"}},
		{con("C", x, con("S", con("S", con("S", x)))), []string{"x"}},
		{con("C", con("S", con("S", x)), y, x), []string{"x", "y"}},
		{con("C", y, con("S", con("S", x)), x), []string{"y", "x"}},
		{con("C", con("S", con("S", z)), con("S", y), x), []string{"z", "y", "x"}},
		{call("f", con("D", x, y), con("D", y, x)), []string{"x", "y"}},
		{call("f", con("D", x, y), con("D", z, x)), []string{"x", "y", "z"}},
		{call("f", con("D", y), con("D", x), con("D", y)), []string{"y", "x"}},
		{call("f", call("g", con("N"), z), call("g", x, z), y, z), []string{"z", "x", "y"}},
		{con("C", call("x"), con("X"), variable("x")), []string{"x"}},
		{con("C", call("y", call("x")), stuck()), nil},
		{con("C", variable("x1"), variable("x"), variable("x11"), variable("x1")), []string{"x1", "x", "x11"}},
		{con("C", variable("b"), variable("a"), variable("c"), variable("a")), []string{"b", "a", "c"}},
		{con("C", variable(""), variable("X"), variable(""), variable("\xff"), variable("\ufffd")), []string{"", "X", "\xff", "\ufffd"}},
		{con("C", impl.Expr{Kind: impl.ExVar, Name: "x", Args: []impl.Expr{y, x}}, y, z), []string{"x", "y", "z"}},
	}
	for _, c := range cases {
		if got := impl.VarsOf(c.e); !slices.Equal(got, c.want) {
			t.Errorf("VarsOf %s = %q, want %q", textOf(c.e), got, c.want)
		}
	}
}

func TestVariablesOfManyNames(t *testing.T) {
	var all, twice []impl.Expr
	var want []string
	for n := 500; n > 0; n-- {
		name := "x" + strconv.Itoa(n*7%501)
		want = append(want, name)
		all = append(all, variable(name))
		twice = append(twice, con("S", variable(name)))
	}
	if got := impl.VarsOf(con("C", append(all, twice...)...)); !slices.Equal(got, want) {
		t.Errorf("VarsOf = %q", got)
	}
}

func TestDataWithAnotherFormInAPart(t *testing.T) {
	other := []impl.Expr{
		variable("x"), call("f"), call("f", con("N")), stuck(),
		{}, {Kind: 5, Name: "N"}, con("n"), con(""), con("Nnnnnnn"), {Kind: impl.ExStuck, Name: "N"},
	}
	data := con("C", con("N"), con("D", con("S", con("N")), con("N")), con("S", con("N")))
	size := impl.SizeOf(data)
	checkFacts(t, data, facts{8, 4, 0, true, true, ""})
	for at := range size {
		for _, part := range other {
			e := cloneExpr(data)
			*nodesIn(&e)[at] = cloneExpr(part)
			if impl.IsData(e) {
				t.Errorf("%s is data", textOf(e))
			}
		}
		e := cloneExpr(data)
		*nodesIn(&e)[at] = con("N")
		if !impl.IsData(e) {
			t.Errorf("%s is no data", textOf(e))
		}
	}
}

// nodesIn returns the nodes of e, so that a test can change one of them.
func nodesIn(e *impl.Expr) []*impl.Expr {
	nodes := []*impl.Expr{e}
	for i := range e.Args {
		nodes = append(nodes, nodesIn(&e.Args[i])...)
	}
	return nodes
}

func checkEqual(t *testing.T, a impl.Expr, b impl.Expr, want bool) {
	t.Helper()
	if impl.EqualExpr(a, b) != want || impl.EqualExpr(b, a) != want {
		t.Errorf("EqualExpr of %.200s and %.200s is not %v", textOf(a), textOf(b), want)
	}
}

func TestEqualExprInEveryFieldOfEveryPart(t *testing.T) {
	x, n := variable("x"), con("N")
	for _, e := range []impl.Expr{
		x, n, call("f"), stuck(), {},
		call("app", x, con("C", x, n)),
		con("C", call("f", stuck(), x), con("D", call("g"), con("S", n))),
		{Kind: 7, Name: "\xff", Args: []impl.Expr{{Kind: impl.ExVar, Name: "Long name", Args: []impl.Expr{n}}}},
	} {
		checkEqual(t, e, e, true)
		checkEqual(t, e, cloneExpr(e), true)
		for at := range impl.SizeOf(e) {
			for _, change := range changesOfOneField {
				changed := cloneExpr(e)
				change(nodesIn(&changed)[at])
				checkEqual(t, e, changed, textOf(e) == textOf(changed))
			}
		}
	}
}

var changesOfOneField = []func(*impl.Expr){
	func(e *impl.Expr) { e.Kind = e.Kind%4 + 1 },
	func(e *impl.Expr) { e.Kind = -e.Kind },
	func(e *impl.Expr) { e.Kind += 1 << 32 },
	func(e *impl.Expr) { e.Kind += 8 },
	func(e *impl.Expr) { e.Name += "1" },
	func(e *impl.Expr) { e.Name = "\x00" + e.Name },
	func(e *impl.Expr) { e.Name = "" },
	func(e *impl.Expr) { e.Name = strings.ToUpper(e.Name) },
	func(e *impl.Expr) { e.Args = append(e.Args, con("N")) },
	func(e *impl.Expr) { e.Args = append([]impl.Expr{variable("x")}, e.Args...) },
	func(e *impl.Expr) { e.Args = nil },
	func(e *impl.Expr) { e.Args = e.Args[:max(len(e.Args), 1)-1] },
	func(e *impl.Expr) { e.Args = e.Args[min(len(e.Args), 1):] },
	func(e *impl.Expr) { slices.Reverse(e.Args) },
}

func TestNilAndEmptyArgsAreEquivalent(t *testing.T) {
	full := make([]impl.Expr, 0, 4)
	for _, e := range []impl.Expr{variable("x"), con("N"), call("f"), stuck(), {}, {Kind: 9, Name: "a b"}} {
		for _, args := range [][]impl.Expr{nil, {}, full, full[:2][:0]} {
			same := e
			same.Args = args
			checkEqual(t, e, same, true)
			checkEqual(t, con("C", con("N"), e), con("C", con("N"), same), true)
			checkFacts(t, same, facts{
				1, 1, impl.CallsOf(e), impl.IsValidExpr(e), impl.IsData(e), strings.Join(impl.VarsOf(e), ","),
			})
		}
	}
	for _, valid := range []impl.Expr{variable("x"), con("N"), call("f"), stuck()} {
		valid.Args = []impl.Expr{}
		if !impl.IsValidExpr(valid) {
			t.Errorf("%s with empty Args is not valid", textOf(valid))
		}
	}
	if got := impl.VarsOf(con("N")); len(got) != 0 {
		t.Errorf("VarsOf = %q", got)
	}
}

// smallExpressions returns, each once, all expressions of at most so many
// nodes over a few right and wrong forms.
func smallExpressions(size int) []impl.Expr {
	return expressionsOver(size,
		variable("x"), variable("y"), con("N"), con("n"), call("f"), call("F"), stuck(),
		impl.Expr{}, impl.Expr{Kind: impl.ExStuck, Name: "x"},
	)
}

// expressionsOver returns, each once, all expressions of at most so many nodes
// that have the Kinds and Names of heads.
func expressionsOver(size int, heads ...impl.Expr) []impl.Expr {
	lists := make([][][]impl.Expr, size)
	lists[0] = [][]impl.Expr{nil}
	var all []impl.Expr
	for n := 1; n <= size; n++ {
		var exact []impl.Expr
		for _, head := range heads {
			for _, args := range lists[n-1] {
				exact = append(exact, impl.Expr{Kind: head.Kind, Name: head.Name, Args: args})
			}
		}
		all = append(all, exact...)
		for total := n; total < size; total++ {
			for _, rest := range lists[total-n] {
				for _, e := range exact {
					lists[total] = append(lists[total], append(slices.Clone(rest), e))
				}
			}
		}
	}
	return all
}

// factsFromParts is what promise 3 says of an expression of a few nodes: its
// facts follow from those of its parts.
func factsFromParts(e impl.Expr) facts {
	f := facts{size: 1, valid: rightForm(e), data: rightForm(e) && e.Kind == impl.ExCon}
	var names []string
	if e.Kind == impl.ExCall {
		f.calls = 1
	}
	if e.Kind == impl.ExVar {
		names = []string{e.Name}
	}
	for _, part := range e.Args {
		f.size += impl.SizeOf(part)
		f.depth = max(f.depth, impl.DepthOf(part))
		f.calls += impl.CallsOf(part)
		f.valid = f.valid && impl.IsValidExpr(part)
		f.data = f.data && impl.IsData(part)
		names = impl.UniteNames(names, impl.VarsOf(part))
	}
	f.depth++
	f.vars = strings.Join(names, ",")
	return f
}

func TestSmallExpressions(t *testing.T) {
	all := smallExpressions(4)
	if len(all) < 20000 {
		t.Fatalf("only %d expressions", len(all))
	}
	for _, e := range all {
		checkFacts(t, e, factsFromParts(e))
	}
}

// irregular is an expression of so many nodes, whose forms and numbers of Args
// follow from the state, which changes on the way.
func irregular(size int, state *uint32) impl.Expr {
	next := func(n int) int { return nextOf(state, n) }
	if size == 1 {
		leaves := []impl.Expr{variable("x"), variable("y"), con("N"), call("f"), stuck()}
		return leaves[next(len(leaves))]
	}
	e := call("f")
	if next(2) == 0 {
		e = con("N")
	}
	for left := size - 1; left > 0; {
		part := 1 + next(left)
		if len(e.Args) == argsLimit-1 {
			part = left
		}
		e.Args = append(e.Args, irregular(part, state))
		left -= part
	}
	return e
}

// nextOf is some number below n.
func nextOf(state *uint32, n int) int {
	*state = *state*1664525 + 1013904223
	return int(*state>>16) % n
}

// numbersFrom returns a function that returns numbers below its argument.
func numbersFrom(state uint32) func(int) int {
	return func(n int) int { return nextOf(&state, n) }
}

func TestIrregularExpressions(t *testing.T) {
	state := uint32(1)
	for round := range 1000 {
		e := irregular(1+round%40, &state)
		for _, node := range nodesIn(&e) {
			want := factsFromParts(*node)
			want.valid = want.valid && want.depth <= depthLimit
			want.data = want.data && want.valid
			checkFacts(t, *node, want)
		}
		checkEqual(t, e, cloneExpr(e), true)
	}
}

func rightForm(e impl.Expr) bool {
	switch e.Name {
	case "x", "y", "f":
		return e.Kind == impl.ExCall || e.Kind == impl.ExVar && len(e.Args) == 0
	case "N":
		return e.Kind == impl.ExCon
	}
	return e.Kind == impl.ExStuck && e.Name == "" && len(e.Args) == 0
}

func TestEqualExprOnSmallExpressions(t *testing.T) {
	all := smallExpressions(3)
	texts := map[string]bool{}
	for i, a := range all {
		texts[textOf(a)] = true
		for j, b := range all {
			if impl.EqualExpr(a, b) != (i == j) {
				t.Fatalf("EqualExpr of %s and %s is %v", textOf(a), textOf(b), i != j)
			}
		}
	}
	if len(texts) != len(all) {
		t.Errorf("%d expressions, %d texts", len(all), len(texts))
	}
}

func TestVeryDeepExpressions(t *testing.T) {
	const depth = 1000000
	x := variable("x")
	a, b, c := tower(depth, con("N")), tower(depth, con("N")), tower(depth, x)
	if impl.SizeOf(a) != depth || impl.DepthOf(a) != depth || impl.CallsOf(a) != depth/2 {
		t.Errorf("size %d, depth %d, calls %d", impl.SizeOf(a), impl.DepthOf(a), impl.CallsOf(a))
	}
	if impl.IsValidExpr(a) || impl.IsData(a) {
		t.Error("a very deep expression is valid")
	}
	if !impl.EqualExpr(a, b) || impl.EqualExpr(a, c) || impl.EqualExpr(c, a) {
		t.Error("EqualExpr of very deep expressions")
	}
	if got := impl.VarsOf(c); !slices.Equal(got, []string{"x"}) {
		t.Errorf("VarsOf = %q", got)
	}
}

func TestVeryWideExpressions(t *testing.T) {
	const width = 200000
	args := make([]impl.Expr, width)
	for i := range args {
		args[i] = call("f")
	}
	args[width-1] = variable("x")
	a, b := con("C", args...), con("C", slices.Clone(args)...)
	checkFacts(t, a, facts{width + 1, 2, width - 1, false, false, "x"})
	if !impl.EqualExpr(a, b) {
		t.Error("EqualExpr of very wide expressions")
	}
	b.Args[width-1].Name = "y"
	if impl.EqualExpr(a, b) {
		t.Error("EqualExpr of very wide expressions that differ")
	}
}

// TestPartsThatShareTheirArgs has expressions that no call could go through
// node by node: validity must be decided after MaxSize nodes.
func TestPartsThatShareTheirArgs(t *testing.T) {
	e := con("N")
	for range 200 {
		e = con("C", e, e)
	}
	if impl.IsValidExpr(e) || impl.IsData(e) {
		t.Error("an expression of depth 201 is valid")
	}
	args := []impl.Expr{con("N"), con("N")}
	args[0].Args = args
	if endless := con("C", args...); impl.IsValidExpr(endless) || impl.IsData(endless) {
		t.Error("an expression that is a part of itself is valid")
	}
	x, y := variable("x"), variable("y")
	for _, e := range []impl.Expr{con("D", dense(200, x), y, dense(200, y)), denseBut(200, x, y), con("D", x, endlessList(y)), endlessList(con("D", x, endlessList(y))), con("D", ring(3), x, y)} {
		if got := impl.VarsOf(e); !slices.Equal(got, []string{"x", "y"}) {
			t.Errorf("VarsOf shared parts = %q", got)
		}
	}
	shared := con("S", con("N"))
	checkFacts(t, con("C", shared, shared, shared), facts{7, 3, 0, true, true, ""})
}

// TestEqualExprOfSharedParts has as many different pairs of parts as needed for
// a difference in the last one to be found.
func TestEqualExprOfSharedParts(t *testing.T) {
	for levels := range 200 {
		a, b, c := con("N"), con("N"), con("M")
		for range levels {
			a, b, c = con("C", a, a), con("C", b, b), con("C", b, c)
		}
		checkEqual(t, a, b, true)
		checkEqual(t, a, c, false)
	}
}

// TestExpressionsLeaveArgumentsAlone covers promise 34 for chapter 3.
func TestExpressionsLeaveArgumentsAlone(t *testing.T) {
	build := func() impl.Expr {
		backing := []impl.Expr{variable("y"), con("C", variable("x"), variable("y")), call("f"), con("Rest"), con("More")}
		return call("g", con("D", backing[:3]...), variable("x"))
	}
	e, untouched := build(), build()
	for range 2 {
		checkFacts(t, e, facts{8, 4, 2, true, false, "y,x"})
		checkEqual(t, e, untouched, true)
		backing := e.Args[0].Args
		rest := backing[:cap(backing)][len(backing):]
		if len(rest) != 2 || !impl.EqualExpr(rest[0], con("Rest")) || !impl.EqualExpr(rest[1], con("More")) {
			t.Fatal("the capacity behind the Args changed")
		}
		names := impl.VarsOf(e)
		for i := range names[:cap(names)] {
			names[:cap(names)][i] = "changed"
		}
	}
}
