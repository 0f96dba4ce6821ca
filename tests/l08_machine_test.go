package tests

import (
	"math"
	"slices"
	"strconv"
	"strings"
	"testing"

	"loop.example/g00584/impl"
)

const (
	fuelLimit = 400
	evalLimit = 600
)

const (
	lazies = "inf(x) = C(x,inf(x)); hd(C(h,t)) = h; tl(C(h,t)) = t; k(x,y) = x; no(x) = !; loop() = loop(); take(Z,l) = N; take(S(n),l) = C(hd(l),take(n,tl(l)))"
	// times(S(..S(Z))) takes 2 and twice the steps for one S less.
	timess = "times(Z) = Z; times(S(x)) = both(times(x),times(x)); both(Z,y) = y; id(x) = x"
)

func outcomeText(o impl.Outcome) string {
	text := "code " + strconv.Itoa(o.Status)
	if o.Status >= 0 && o.Status < len(statusNames) {
		text = statusNames[o.Status]
	}
	switch value := impl.FormatExpr(o.Value); {
	case value != "":
		text += " " + value
	case textOf(o.Value) != textOf(impl.Expr{}):
		text += " " + textOf(o.Value)
	}
	return text + " " + strconv.Itoa(o.Steps)
}

var statusNames = []string{"bad", "ended", "stuck", "fuel", "large"}

// The functions whose names begin with meant follow chapter 8 as rewriting of
// one expression, step after step, as a second opinion on what the program
// computes part by part.

// meantWork is the part of which the head is needed next; nil if the head, or
// the whole value, is there.
func meantWork(e *impl.Expr, isWhole bool) *impl.Expr {
	if e.Kind != impl.ExCon {
		return e
	}
	for i := range e.Args {
		if work := meantWork(&e.Args[i], isWhole); isWhole && work != nil {
			return work
		}
	}
	return nil
}

// meantRedex is the part that the next step for the head of e replaces.
func meantRedex(p impl.Program, e *impl.Expr) *impl.Expr {
	for e.Kind == impl.ExCall && !isMeantPlain(p, e.Name) && e.Args[0].Kind == impl.ExCall {
		e = &e.Args[0]
	}
	return e
}

func isMeantPlain(p impl.Program, name string) bool {
	return meantRule(p, func(r impl.Rule) bool { return r.Name == name && r.Con == "" }) >= 0
}

// meantStep is what the redex is replaced by, and false if it is stuck.
func meantStep(p impl.Program, redex impl.Expr) (impl.Expr, bool) {
	if redex.Kind != impl.ExCall {
		return impl.Expr{}, false
	}
	name, args := "", redex.Args
	if !isMeantPlain(p, redex.Name) {
		if args[0].Kind != impl.ExCon {
			return impl.Expr{}, false
		}
		name, args = args[0].Name, slices.Concat(args[0].Args, args[1:])
	}
	at := meantRule(p, func(r impl.Rule) bool { return r.Name == redex.Name && r.Con == name })
	if at < 0 {
		return impl.Expr{}, false
	}
	var list []impl.Binding
	for i, name := range slices.Concat(p.Rules[at].Vars, p.Rules[at].Params) {
		list = append(list, binding(name, args[i]))
	}
	return cloneExpr(meantApplied(p.Rules[at].Body, list)), true
}

// largestValue is the size of the largest part that is all constructors, and of
// e if that is one.
func largestValue(e impl.Expr) (largest int, size int) {
	isValue := e.Kind == impl.ExCon
	for _, part := range e.Args {
		below, n := largestValue(part)
		largest, size, isValue = max(largest, below), size+n, isValue && n > 0
	}
	if !isValue {
		return largest, 0
	}
	return size + 1, size + 1
}

func meantOutcome(p impl.Program, e impl.Expr, fuel int, isWhole bool) impl.Outcome {
	if len(faultsIn(p)) > 0 || !meantExprFor(p, e) || fuel < 0 || fuel > fuelLimit {
		return impl.Outcome{}
	}
	e = cloneExpr(e)
	for steps := 0; ; steps++ {
		work := meantWork(&e, isWhole)
		if work == nil {
			return impl.Outcome{Status: impl.EvEnded, Value: e, Steps: steps}
		}
		redex := meantRedex(p, work)
		body, ok := meantStep(p, *redex)
		if !ok {
			return impl.Outcome{Status: impl.EvStuck, Steps: steps}
		}
		if steps == fuel {
			return impl.Outcome{Status: impl.EvFuel, Steps: steps}
		}
		*redex = body
		largest, _ := largestValue(e)
		if impl.SizeOf(body) > evalLimit || isWhole && largest > evalLimit {
			return impl.Outcome{Status: impl.EvLarge, Steps: steps + 1}
		}
	}
}

func checkOutcome(t *testing.T, what string, p impl.Program, e impl.Expr, got impl.Outcome, want string) {
	t.Helper()
	if outcomeText(got) != want {
		t.Errorf("%s of %.500s is %.2000s, want %.2000s, for %.1000s", what, textOf(e), outcomeText(got), want, programText(p))
	}
}

// checkRun compares what both functions return with what is meant.
func checkRun(t *testing.T, p impl.Program, e impl.Expr, fuel int) (head impl.Outcome, whole impl.Outcome) {
	t.Helper()
	head, whole = impl.HeadOf(p, e, fuel), impl.EvalExpr(p, e, fuel)
	checkOutcome(t, "HeadOf with fuel "+strconv.Itoa(fuel), p, e, head, outcomeText(meantOutcome(p, e, fuel, false)))
	checkOutcome(t, "EvalExpr with fuel "+strconv.Itoa(fuel), p, e, whole, outcomeText(meantOutcome(p, e, fuel, true)))
	return head, whole
}

// checkMachine checks promise 8 for an expression, and returns the Status of its
// evaluation.
func checkMachine(t *testing.T, p impl.Program, e impl.Expr) int {
	t.Helper()
	for _, fuel := range []int{0, 1, 2, 3, 5, 8} {
		checkRun(t, p, e, fuel)
	}
	head, whole := checkRun(t, p, e, 60)
	if head.Steps > whole.Steps || whole.Status == impl.EvEnded && head.Status != impl.EvEnded {
		t.Errorf("HeadOf of %s gives %s, EvalExpr %s", textOf(e), outcomeText(head), outcomeText(whole))
	}
	checkFuel(t, "HeadOf", impl.HeadOf, p, e, head)
	checkFuel(t, "EvalExpr", impl.EvalExpr, p, e, whole)
	if whole.Status == impl.EvEnded {
		checkValue(t, p, whole.Value)
	}
	return whole.Status
}

// checkFuel looks whether exactly the steps that were counted are enough.
func checkFuel(t *testing.T, what string, run func(impl.Program, impl.Expr, int) impl.Outcome, p impl.Program, e impl.Expr, got impl.Outcome) {
	t.Helper()
	checkOutcome(t, what+" with its steps as fuel", p, e, run(p, e, got.Steps), outcomeText(got))
	for _, fuel := range []int{got.Steps - 1, got.Steps / 2, 0} {
		if fuel >= 0 && fuel < got.Steps {
			checkOutcome(t, what+" with less fuel", p, e, run(p, e, fuel), "fuel "+strconv.Itoa(fuel))
		}
	}
}

// checkValue looks whether a value is data that is evaluated without a step.
func checkValue(t *testing.T, p impl.Program, value impl.Expr) {
	t.Helper()
	if _, size := largestValue(value); size == 0 || size > evalLimit {
		t.Errorf("%.2000s is a value", textOf(value))
	}
	if !impl.IsValidExpr(value) {
		return
	}
	if !impl.IsData(value) {
		t.Errorf("%s is no data", textOf(value))
	}
	want := outcomeText(impl.Outcome{Status: impl.EvEnded, Value: value})
	for _, fuel := range []int{0, 1, fuelLimit} {
		checkOutcome(t, "HeadOf of a value", p, value, impl.HeadOf(p, value, fuel), want)
		checkOutcome(t, "EvalExpr of a value", p, value, impl.EvalExpr(p, value, fuel), want)
	}
}

func TestCodesOfTheMachine(t *testing.T) {
	if impl.MaxFuel != fuelLimit || impl.MaxEvalSize != evalLimit {
		t.Errorf("limits %d and %d", impl.MaxFuel, impl.MaxEvalSize)
	}
	for code, want := range []int{impl.EvBad, impl.EvEnded, impl.EvStuck, impl.EvFuel, impl.EvLarge} {
		if got := impl.StatusName(want); code != want || got != statusNames[code] {
			t.Errorf("code %d is %d with the name %q", code, want, got)
		}
	}
	for _, code := range []int{5, 6, 100, 256, 257, 1 << 32, 1<<32 + 1, math.MaxInt, -1, -2, -256, -1 << 32, math.MinInt, math.MinInt + 1} {
		if got := impl.StatusName(code); got != "?" {
			t.Errorf("StatusName(%d) = %q", code, got)
		}
	}
}

// TestOutcomes has what both functions return, in the form in which outcomeText
// writes it.
func TestOutcomes(t *testing.T) {
	for _, c := range []struct{ program, text, head, value string }{
		// What needs no step.
		{appends, "N", "ended N 0", "ended N 0"},
		{appends, "C(Z,Q(Z,Z))", "ended C(Z,Q(Z,Z)) 0", "ended C(Z,Q(Z,Z)) 0"},
		{appends, "x", "stuck 0", "stuck 0"},
		{appends, "!", "stuck 0", "stuck 0"},
		{appends, "C(x,N)", "ended C(x,N) 0", "stuck 0"},
		{appends, "C(N,!)", "ended C(N,!) 0", "stuck 0"},
		{appends, "Q(Q(Q(x)))", "ended Q(Q(Q(x))) 0", "stuck 0"},
		// Matching functions.
		{appends, "app(N,N)", "ended N 1", "ended N 1"},
		{appends, "app(C(Z,N),C(Z,N))", "ended C(Z,app(N,C(Z,N))) 1", "ended C(Z,C(Z,N)) 2"},
		{appends, "app(app(C(Z,N),N),N)", "ended C(Z,app(app(N,N),N)) 2", "ended C(Z,N) 4"},
		{appends, "C(app(N,N),app(N,app(N,N)))", "ended C(app(N,N),app(N,app(N,N))) 0", "ended C(N,N) 3"},
		{doubles, "dbl(S(S(Z)))", "ended S(S(dbl(S(Z)))) 1", "ended S(S(S(S(Z)))) 3"},
		{doubles, "ev(S(S(S(Z))))", "ended F 4", "ended F 4"},
		{adds, "add(S(S(Z)),S(Z))", "ended S(S(S(Z))) 3", "ended S(S(S(Z))) 3"},
		// Plain functions.
		{plains, "two()", "ended S(S(Z)) 1", "ended S(S(Z)) 1"},
		{plains, "id(two())", "ended S(S(Z)) 2", "ended S(S(Z)) 2"},
		{plains, "id(id(id(Z)))", "ended Z 3", "ended Z 3"},
		{plains, "swap(two(),Z)", "ended P(Z,id(two())) 1", "ended P(Z,S(S(Z))) 3"},
		{plains, "bad(Z)", "stuck 1", "stuck 1"},
		// A head that is needed and is not there.
		{appends, "app(x,N)", "stuck 0", "stuck 0"},
		{appends, "app(!,N)", "stuck 0", "stuck 0"},
		{appends, "app(Z,N)", "stuck 0", "stuck 0"},
		{appends, "app(Z(N,N),N)", "stuck 0", "stuck 0"},
		{appends, "app(N,x)", "stuck 1", "stuck 1"},
		{appends, "app(app(N,Z),N)", "stuck 1", "stuck 1"},
		{appends, "app(app(N,!),N)", "stuck 1", "stuck 1"},
		{appends, "app(C(x,!),y)", "ended C(x,app(!,y)) 1", "stuck 1"},
		{appends, "app(C(Z,!),y)", "ended C(Z,app(!,y)) 1", "stuck 1"},
		{appends, "app(C(Z,N),x)", "ended C(Z,app(N,x)) 1", "stuck 2"},
		// What is not needed may be stuck or without an end.
		{lazies, "k(Z,!)", "ended Z 1", "ended Z 1"},
		{lazies, "k(Z,x)", "ended Z 1", "ended Z 1"},
		{lazies, "k(Z,no(Z))", "ended Z 1", "ended Z 1"},
		{lazies, "k(Z,loop())", "ended Z 1", "ended Z 1"},
		{lazies, "hd(C(Z,loop()))", "ended Z 1", "ended Z 1"},
		{lazies, "tl(C(!,Z))", "ended Z 1", "ended Z 1"},
		{lazies, "hd(tl(inf(Z)))", "ended Z 4", "ended Z 4"},
		{lazies, "hd(tl(C(x,inf(k(Z,y)))))", "ended Z 4", "ended Z 4"},
		{lazies, "take(S(Z),inf(S(Z)))", "ended C(hd(inf(S(Z))),take(Z,tl(inf(S(Z))))) 1", "ended C(S(Z),N) 4"},
		{lazies, "hd(inf(!))", "stuck 2", "stuck 2"},
		{lazies, "hd(hd(inf(Z)))", "stuck 2", "stuck 2"},
		{lazies, "no(Z)", "stuck 1", "stuck 1"},
		// What is needed several times.
		{plains, "dup(two())", "ended P(two(),two()) 1", "ended P(S(S(Z)),S(S(Z))) 3"},
		{plains, "dup(id(id(Z)))", "ended P(id(id(Z)),id(id(Z))) 1", "ended P(Z,Z) 5"},
		{timess, "times(Z)", "ended Z 1", "ended Z 1"},
		{timess, "times(S(S(Z)))", "ended Z 10", "ended Z 10"},
		{timess, "times(S(S(S(S(S(S(S(Z))))))))", "ended Z 382", "ended Z 382"},
		// Without an end.
		{plains, "loop()", "fuel 400", "fuel 400"},
		{plains, "id(loop())", "fuel 400", "fuel 400"},
		{lazies, "inf(Z)", "ended C(Z,inf(Z)) 1", "fuel 400"},
		{lazies, "hd(loop())", "fuel 400", "fuel 400"},
		// The arguments of a head are evaluated from left to right.
		{plains, "P(!,loop())", "ended P(!,loop()) 0", "stuck 0"},
		{plains, "P(loop(),!)", "ended P(loop(),!) 0", "fuel 400"},
		{plains, "P(two(),!)", "ended P(two(),!) 0", "stuck 1"},
		{plains, "P(P(Z,two()),P(bad(Z),loop()))", "ended P(P(Z,two()),P(bad(Z),loop())) 0", "stuck 2"},
		{plains, "P(P(two(),loop()),bad(Z))", "ended P(P(two(),loop()),bad(Z)) 0", "fuel 400"},
		{plains, "dup(id(x))", "ended P(id(x),id(x)) 1", "stuck 2"},
	} {
		p, e := programOf(t, c.program), exprOf(t, c.text)
		checkOutcome(t, "HeadOf", p, e, impl.HeadOf(p, e, fuelLimit), c.head)
		checkOutcome(t, "EvalExpr", p, e, impl.EvalExpr(p, e, fuelLimit), c.value)
		checkMachine(t, p, e)
		checkRun(t, p, e, fuelLimit)
	}
}

func TestProgramWithoutRulesInTheMachine(t *testing.T) {
	for _, text := range []string{"N", "C(x,N)", "C(N,C(N,N))", "x", "!", "f(x)", "f()", "C(N,C(N))"} {
		checkMachine(t, impl.Program{}, exprOf(t, text))
		checkMachine(t, impl.Program{Rules: []impl.Rule{}}, exprOf(t, text))
	}
}

// TestRulesOfTheMachine changes the order of the rules, which does not matter.
func TestRulesOfTheMachine(t *testing.T) {
	for _, c := range []struct{ program, text string }{
		{backward, "f(Q,Z)"}, {backward, "od(S(S(Z)))"}, {backward, "g(h(x),ev(S(S(Z))))"}, {widest, "g(A,B,D(N,N,N,N,N),E)"},
		{widest, "f(C(A,!,B,E,Z),loop,x,A,y)"}, {patterns, "m(C(A,C(B,C(A,N))))"}, {patterns, "n(C(B,!))"}, {mixed, "both(C(two(),N),C(x,N))"},
		{mixed, "both(C(two(),N),C(Z,id(N)))"},
	} {
		e := exprOf(t, strings.ReplaceAll(c.text, "loop", "x"))
		p := programOf(t, c.program)
		want := outcomeText(impl.EvalExpr(p, e, 100))
		for range p.Rules {
			checkMachine(t, p, e)
			checkOutcome(t, "EvalExpr", p, e, impl.EvalExpr(p, e, 100), want)
			p.Rules = append(p.Rules[1:], p.Rules[0])
		}
	}
}

// TestEveryFuel has expressions that need up to one step more than there can be
// fuel.
func TestEveryFuel(t *testing.T) {
	p := programOf(t, timess+"; five(x) = id(id(id(id(x))))")
	e := exprOf(t, "five(five(five(times(S(S(S(S(S(S(S(Z)))))))))))")
	for steps := fuelLimit - 3; steps <= fuelLimit; steps++ {
		want := "ended Z " + strconv.Itoa(steps)
		checkOutcome(t, "HeadOf", p, e, impl.HeadOf(p, e, steps), want)
		checkOutcome(t, "EvalExpr", p, e, impl.EvalExpr(p, e, steps), want)
		for fuel := range steps {
			want := "fuel " + strconv.Itoa(fuel)
			checkOutcome(t, "HeadOf with too little fuel", p, e, impl.HeadOf(p, e, fuel), want)
			checkOutcome(t, "EvalExpr with too little fuel", p, e, impl.EvalExpr(p, e, fuel), want)
		}
		checkRun(t, p, e, fuelLimit)
		e = call("id", e)
	}
	checkOutcome(t, "HeadOf", p, e, impl.HeadOf(p, e, fuelLimit), "fuel 400")
	checkOutcome(t, "EvalExpr", p, e, impl.EvalExpr(p, e, fuelLimit), "fuel 400")
	checkRun(t, p, e, fuelLimit)
}

// TestFuelThatIsNone covers numbers of steps beyond the limits, which come
// before all that an expression might be.
func TestFuelThatIsNone(t *testing.T) {
	p := programOf(t, lazies)
	for _, text := range []string{"N", "hd(C(Z,N))", "x", "!", "hd(x)", "loop()", "C(Z,loop())", "f(x)"} {
		e := exprOf(t, text)
		for _, fuel := range []int{-1, -2, -400, -1 << 32, math.MinInt, fuelLimit + 1, fuelLimit + 2, 1000, 1 << 32, 1<<32 + 1, math.MaxInt} {
			checkBad(t, p, e, fuel)
		}
	}
}

func checkBad(t *testing.T, p impl.Program, e impl.Expr, fuel int) {
	t.Helper()
	checkOutcome(t, "HeadOf with fuel "+strconv.Itoa(fuel), p, e, impl.HeadOf(p, e, fuel), "bad 0")
	checkOutcome(t, "EvalExpr with fuel "+strconv.Itoa(fuel), p, e, impl.EvalExpr(p, e, fuel), "bad 0")
}

// TestFuelAgainstOtherEnds has what comes first where there is no fuel left.
func TestFuelAgainstOtherEnds(t *testing.T) {
	p := programOf(t, plains+"; hd(C(h,t)) = h")
	for _, c := range []struct {
		text        string
		fuel        int
		head, value string
	}{
		{"N", 0, "ended N 0", "ended N 0"}, {"x", 0, "stuck 0", "stuck 0"}, {"!", 0, "stuck 0", "stuck 0"},
		// No step is needed where there is no rule.
		{"hd(N)", 0, "stuck 0", "stuck 0"}, {"hd(x)", 0, "stuck 0", "stuck 0"}, {"hd(!)", 0, "stuck 0", "stuck 0"}, {"hd(hd(N))", 0, "stuck 0", "stuck 0"},
		{"hd(two())", 0, "fuel 0", "fuel 0"}, {"hd(two())", 1, "stuck 1", "stuck 1"}, {"id(x)", 0, "fuel 0", "fuel 0"}, {"id(x)", 1, "stuck 1", "stuck 1"},
		{"bad(x)", 0, "fuel 0", "fuel 0"}, {"bad(x)", 1, "stuck 1", "stuck 1"}, {"hd(C(x,y))", 0, "fuel 0", "fuel 0"}, {"hd(C(x,y))", 1, "stuck 1", "stuck 1"},
		{"hd(id(C(x,y)))", 1, "fuel 1", "fuel 1"}, {"hd(id(C(Z,y)))", 2, "ended Z 2", "ended Z 2"},
		{"C(!,two())", 0, "ended C(!,two()) 0", "stuck 0"}, {"C(two(),!)", 0, "ended C(two(),!) 0", "fuel 0"}, {"C(two(),!)", 1, "ended C(two(),!) 0", "stuck 1"},
		{"C(id(N),id(!))", 1, "ended C(id(N),id(!)) 0", "fuel 1"}, {"C(id(N),id(!))", 2, "ended C(id(N),id(!)) 0", "stuck 2"},
		{"dup(two())", 1, "ended P(two(),two()) 1", "fuel 1"}, {"dup(two())", 2, "ended P(two(),two()) 1", "fuel 2"},
	} {
		e := exprOf(t, c.text)
		checkOutcome(t, "HeadOf", p, e, impl.HeadOf(p, e, c.fuel), c.head)
		checkOutcome(t, "EvalExpr", p, e, impl.EvalExpr(p, e, c.fuel), c.value)
		checkMachine(t, p, e)
	}
}

// pairs is data of so many nodes, an odd number.
func pairs(size int) impl.Expr {
	if size == 1 {
		return con("O")
	}
	left := (size-1)/2 | 1
	return con("T", pairs(left), pairs(size-1-left))
}

// sized is a rule that makes rows*(4*n+1)+1+more nodes of an argument of n.
func sized(name string, rows int, more int) string {
	body := strings.Repeat("S(", more) + "Z" + strings.Repeat(")", more)
	for range rows {
		body = "W(x,x,x,x," + body + ")"
	}
	return name + "(x) = " + body
}

// checkEnds looks how both functions end, apart from the Values, which
// checkMachine compares.
func checkEnds(t *testing.T, p impl.Program, e impl.Expr, fuel int, head string, value string) {
	t.Helper()
	for what, c := range map[string]struct {
		got  impl.Outcome
		want string
	}{"HeadOf": {impl.HeadOf(p, e, fuel), head}, "EvalExpr": {impl.EvalExpr(p, e, fuel), value}} {
		if end := statusNames[c.got.Status] + " " + strconv.Itoa(c.got.Steps); end != c.want {
			t.Errorf("%s of %.500s with fuel %d ends with %s, want %s", what, textOf(e), fuel, end, c.want)
		}
	}
	checkMachine(t, p, e)
}

// TestResultsOfStepsAtTheSizeLimit has a step whose result is as large as it may
// be, and one of a node more.
func TestResultsOfStepsAtTheSizeLimit(t *testing.T) {
	const others = "; id(x) = x; sel(W(a,b,c,d,e),y) = y; out(W(a,b,c,d,e)) = id(a); no(W(a,b,c,d,e)) = !"
	right, large := programOf(t, sized("g", 3, 8)+others), programOf(t, sized("g", 3, 9)+others)
	part := pairs(49)
	g := call("g", part)
	for _, c := range []struct {
		e                     impl.Expr
		head, value           string
		largeHead, largeValue string
	}{
		{g, "ended 1", "ended 1", "large 1", "large 1"},
		{call("id", g), "ended 2", "ended 2", "large 2", "large 2"},
		{call("sel", g, con("O")), "ended 2", "ended 2", "large 1", "large 1"},
		// The call has more nodes then, but it is not evaluated as a whole.
		{call("sel", g, pairs(27)), "ended 2", "ended 2", "large 1", "large 1"},
		{call("out", g), "ended 3", "ended 3", "large 1", "large 1"},
		{call("no", g), "stuck 2", "stuck 2", "large 1", "large 1"},
		{call("no", call("id", g)), "stuck 3", "stuck 3", "large 2", "large 2"},
		{con("R", con("Z"), g, stuck()), "ended 0", "stuck 1", "ended 0", "large 1"},
		{con("R", stuck(), g), "ended 0", "stuck 0", "ended 0", "stuck 0"},
		{con("R", g), "ended 0", "large 1", "ended 0", "large 1"},
	} {
		checkEnds(t, right, c.e, 10, c.head, c.value)
		checkEnds(t, large, c.e, 10, c.largeHead, c.largeValue)
	}
	// A step that is needed after so many steps is not performed.
	for _, p := range []impl.Program{right, large} {
		checkEnds(t, p, g, 0, "fuel 0", "fuel 0")
		checkEnds(t, p, call("id", g), 1, "fuel 1", "fuel 1")
	}
	checkEnds(t, right, g, 1, "ended 1", "ended 1")
	checkEnds(t, large, g, 1, "large 1", "large 1")
	for more := range 16 {
		p := programOf(t, sized("g", 3, more))
		want := impl.Outcome{Status: impl.EvEnded, Value: meantApplied(p.Rules[0].Body, []impl.Binding{binding("x", part)}), Steps: 1}
		if size := impl.SizeOf(want.Value); size != 592+more {
			t.Errorf("%d nodes", size)
		} else if size > evalLimit {
			want = impl.Outcome{Status: impl.EvLarge, Steps: 1}
		}
		checkOutcome(t, "HeadOf", p, g, impl.HeadOf(p, g, 1), outcomeText(want))
		checkOutcome(t, "EvalExpr", p, g, impl.EvalExpr(p, g, 1), outcomeText(want))
	}
}

// TestValuesAtTheSizeLimit has values that are as large as they may be, and such
// of a node more, though all that is evaluated on the way is smaller.
func TestValuesAtTheSizeLimit(t *testing.T) {
	p := programOf(t, sized("g", 2, 16)+"; "+sized("h", 2, 17)+"; id(x) = x; loop() = loop(); fst(V(a,b)) = a")
	g, h := call("g", pairs(35)), call("h", pairs(35))
	if a, b := impl.SizeOf(impl.EvalExpr(p, g, 1).Value), impl.SizeOf(impl.EvalExpr(p, h, 1).Value); a != 299 || b != 300 {
		t.Fatalf("values of %d and %d nodes", a, b)
	}
	right, large := con("V", g, h), con("V", h, h)
	for _, c := range []struct {
		e     impl.Expr
		value string
	}{
		{right, "ended 2"}, {con("V", h, g), "ended 2"}, {large, "large 2"}, {con("U", g, g, con("Z")), "ended 2"}, {con("U", g, con("Z"), h), "large 2"},
		{con("V", call("id", h), call("id", g)), "ended 4"}, {con("V", call("id", h), call("id", h)), "large 4"},
		{con("Q", right), "large 2"}, {con("Q", large), "large 2"}, {con("Q", con("V", g, g)), "ended 2"},
		// The value of a part counts as soon as it is there, that of the whole in the end.
		{con("Q", large, stuck()), "large 2"}, {con("Q", large, call("loop")), "large 2"}, {con("Q", right, stuck()), "stuck 2"}, {con("Q", right, call("id", con("Z"))), "large 3"},
		{con("Q", stuck(), large), "stuck 0"}, {con("Q", call("id", con("Z")), large), "large 3"}, {con("U", h, h, stuck()), "stuck 2"}, {con("U", h, h, call("id", con("Z"))), "large 3"},
		{con("U", h, h, call("loop")), "fuel 20"}, {con("U", h, stuck(), h), "stuck 1"},
	} {
		checkEnds(t, p, c.e, 20, "ended 0", c.value)
		checkEnds(t, p, c.e, 0, "ended 0", map[bool]string{true: "stuck 0", false: "fuel 0"}[c.value == "stuck 0"])
	}
	checkEnds(t, p, large, 1, "ended 0", "fuel 1")
	checkEnds(t, p, large, 2, "ended 0", "large 2")
	checkEnds(t, p, call("fst", large), 20, "ended 2", "ended 2")
	checkEnds(t, p, call("id", large), 20, "ended 1", "large 3")
}

// TestExpressionsAtTheLimitsOfTheMachine has what is evaluated at first: as only
// valid expressions are, MaxSize is what counts there.
func TestExpressionsAtTheLimitsOfTheMachine(t *testing.T) {
	p := programOf(t, "id(x) = x; f(B(a,b,c,d,e)) = a")
	for _, size := range []int{sizeLimit - 1, sizeLimit, sizeLimit + 1, evalLimit - 1, evalLimit, evalLimit + 1} {
		e := con("V", chain(15), chain(16), chain(16), chain(16), chain(16))
		if size > sizeLimit {
			e.Args[4] = con("V", copies(argsLimit, chain((size-64)/argsLimit))...)
		}
		e.Args[0] = chain(15 + size - impl.SizeOf(e))
		want := outcomeText(impl.Outcome{Status: impl.EvEnded, Value: e})
		if size > sizeLimit {
			want = "bad 0"
		}
		checkOutcome(t, "HeadOf", p, e, impl.HeadOf(p, e, 9), want)
		checkOutcome(t, "EvalExpr", p, e, impl.EvalExpr(p, e, 9), want)
	}
	deep := con("Z")
	for range depthLimit - 1 {
		deep = call("id", deep)
	}
	checkOutcome(t, "EvalExpr", p, deep, impl.EvalExpr(p, deep, 100), "ended Z "+strconv.Itoa(depthLimit-1))
	checkBad(t, p, call("id", deep), 100)
	checkBad(t, p, con("S", deep), 0)
}

// TestValuesBeyondTheLimitsOfExpressions has values that are deeper or larger
// than valid expressions are.
func TestValuesBeyondTheLimitsOfExpressions(t *testing.T) {
	p := programOf(t, "dbl(Z) = Z; dbl(S(x)) = S(S(dbl(x))); id(x) = x; "+sized("g", 1, 0))
	for n := range 20 {
		e := call("dbl", chain(n+1))
		want := outcomeText(impl.Outcome{Status: impl.EvEnded, Value: chain(2*n + 1), Steps: n + 1})
		checkOutcome(t, "EvalExpr", p, e, impl.EvalExpr(p, e, n+1), want)
		checkMachine(t, p, e)
	}
	for _, size := range []int{17, 19, 21, 33, 77} {
		e := call("id", call("g", pairs(size)))
		want := impl.Outcome{Status: impl.EvEnded, Value: con("W", append(copies(4, pairs(size)), con("Z"))...), Steps: 2}
		checkOutcome(t, "HeadOf", p, e, impl.HeadOf(p, e, 2), outcomeText(want))
		checkOutcome(t, "EvalExpr", p, e, impl.EvalExpr(p, e, 2), outcomeText(want))
	}
}

func TestProgramsThatAreNotValidInTheMachine(t *testing.T) {
	withOneFault(t, func(p impl.Program, fault string) {
		for _, text := range []string{"N", "!", "x", "two()", "id(N)", "P(!,two())"} {
			checkBad(t, p, exprOf(t, text), 5)
		}
		checkBad(t, p, exprOf(t, "N"), -1)
	})
	for _, text := range []string{matchingFirst, plainFirst} {
		valid, e := programOf(t, text), exprOf(t, "id(two())")
		checkOutcome(t, "EvalExpr", valid, e, impl.EvalExpr(valid, e, 5), "ended S(S(N)) 2")
	}
	var p impl.Program
	for n := range rulesLimit {
		p.Rules = append(p.Rules, plainRule("f"+strconv.Itoa(n)))
	}
	e := exprOf(t, "f0(f23(Z))")
	checkOutcome(t, "EvalExpr", p, e, impl.EvalExpr(p, e, 2), "ended Z 2")
	p.Rules = append(p.Rules, plainRule("f"))
	checkBad(t, p, e, 2)
}

func TestExpressionsThatAreNotForTheMachine(t *testing.T) {
	p := programOf(t, mixed)
	for _, text := range []string{
		"f()", "f(x)", "C(N,f())", "id(f(Z))", "two(Z)", "id()", "id(N,N)", "app(N)", "app(N,N,N)", "len()", "P(two(),id())", "N(Z)", "C(Z)", "S", "S(Z,Z)", "C(Z,C(Z))", "id(S)",
		"Q(Q)", "C(Q,Q(Z))", "P(!,id())", "P(loop(),Z)", "id(C(N,N(Z)))",
	} {
		e := exprOf(t, text)
		if meantExprFor(p, e) {
			t.Errorf("%s is for the program", text)
		}
		for _, fuel := range []int{0, 1, 9, fuelLimit} {
			checkBad(t, p, e, fuel)
		}
	}
	for _, e := range []impl.Expr{
		{}, {Kind: 7}, {Kind: -1}, {Kind: 1<<32 + 2, Name: "N"}, {Name: "N"}, applied("x", con("N")), {Kind: impl.ExStuck, Name: "x"}, {Kind: impl.ExStuck, Args: []impl.Expr{con("N")}},
		variable(""), variable("X"), variable("xxxxxxx"), con(""), con("n"), con("Nnnnnnn"), call(""), call("Two"), call("id"), con("Q", copies(argsLimit+1, con("N"))...),
	} {
		for _, fuel := range []int{0, 9} {
			checkBad(t, p, e, fuel)
			checkBad(t, impl.Program{}, e, fuel)
			checkBad(t, p, con("S", e), fuel)
			checkBad(t, p, call("id", e), fuel)
			checkBad(t, p, call("app", con("N"), e), fuel)
		}
	}
}

// headsFor are what an expression for a program can be made of.
func headsFor(p impl.Program) []impl.Expr {
	heads := []impl.Expr{variable("x"), stuck()}
	var functions, cons []string
	for _, r := range p.Rules {
		functions = append(functions, r.Name)
	}
	for _, u := range consIn(p) {
		cons = append(cons, u.name)
	}
	for _, name := range impl.UniteNames(functions, nil) {
		heads = append(heads, call(name))
	}
	for _, name := range impl.UniteNames(cons, nil) {
		if name != "" {
			heads = append(heads, con(name))
		}
	}
	return heads
}

func TestSmallExpressionsInTheMachine(t *testing.T) {
	t.Parallel()
	for text, size := range map[string]int{appends: 5, doubles: 4, plains: 4, lazies: 3, timess: 4, patterns: 3, mixed: 3, adds: 5} {
		p := programOf(t, text)
		found := map[int]int{}
		for _, e := range expressionsOver(size, headsFor(p)...) {
			if impl.IsExprFor(p, e) {
				found[checkMachine(t, p, e)]++
			}
		}
		if found[impl.EvEnded] < 5 || found[impl.EvStuck] < 10 || found[impl.EvBad] > 0 {
			t.Errorf("%s ends as %v", text, found)
		}
	}
}

// anyExprFor is some expression for a program, at most so deep.
func anyExprFor(p impl.Program, depth int, next func(int) int) impl.Expr {
	heads := headsFor(p)
	e := heads[next(len(heads))]
	count := 0
	switch e.Kind {
	case impl.ExCall:
		count = meantArity(p, e.Name)
	case impl.ExCon:
		count = meantConArity(consIn(p), e.Name)
	case impl.ExVar, impl.ExStuck:
		// Few of these, as nothing is evaluated behind them.
		if next(4) > 0 {
			return anyExprFor(p, depth, next)
		}
	}
	if count > 0 && depth == 1 {
		return con("Zero")
	}
	for range count {
		e.Args = append(e.Args, anyExprFor(p, depth-1, next))
	}
	return e
}

func TestIrregularExpressionsInTheMachine(t *testing.T) {
	t.Parallel()
	next := numbersFrom(11)
	found := map[int]int{}
	for _, text := range append(ordinaryPrograms, lazies, timess) {
		p := programOf(t, text)
		for round := range 150 {
			e := anyExprFor(p, 3+round%4, next)
			if impl.IsExprFor(p, e) {
				found[checkMachine(t, p, e)]++
			}
		}
	}
	if found[impl.EvEnded] < 100 || found[impl.EvStuck] < 100 || found[impl.EvFuel] < 20 {
		t.Errorf("the expressions end as %v", found)
	}
}

// TestChangedProgramsInTheMachine has programs that are not valid, too.
func TestChangedProgramsInTheMachine(t *testing.T) {
	t.Parallel()
	next := numbersFrom(3)
	checkChangedPrograms(t, 1000, func(p impl.Program) bool {
		isValid := len(faultsIn(p)) == 0
		for range 4 {
			if isValid {
				checkRun(t, p, anyExprFor(p, 4, next), 30)
			} else {
				checkRun(t, p, con("N"), 30)
			}
		}
		return isValid
	})
}

// TestEndlessExpressionsInTheMachine has arguments that no call could go through
// node by node.
func TestEndlessExpressionsInTheMachine(t *testing.T) {
	p := programOf(t, plains)
	for _, e := range []impl.Expr{
		tower(1000000, con("N")), con("Q", copies(200000, con("N"))...), dense(200, con("N")), dense(200, call("two")), endlessList(con("N")), ring(3), call("id", endlessList(con("N"))), call("swap", con("N"), dense(1000, con("N"))),
		{Kind: impl.ExCall, Name: strings.Repeat("f", 1000000)}, con("S", applied("x", endlessList(con("N")))),
	} {
		for _, fuel := range []int{-1, 0, fuelLimit, math.MaxInt} {
			if head, whole := impl.HeadOf(p, e, fuel), impl.EvalExpr(p, e, fuel); outcomeText(head) != "bad 0" || outcomeText(whole) != "bad 0" {
				t.Errorf("an expression that is not valid ends with %s and %s", outcomeText(head), outcomeText(whole))
			}
		}
		for at := range p.Rules {
			wrong := cloneProgram(p)
			wrong.Rules[at].Body = e
			for _, good := range []impl.Expr{con("N"), call("two"), stuck(), e} {
				if head, whole := impl.HeadOf(wrong, good, 9), impl.EvalExpr(wrong, good, 9); outcomeText(head) != "bad 0" || outcomeText(whole) != "bad 0" {
					t.Errorf("a program that is not valid ends with %s and %s", outcomeText(head), outcomeText(whole))
				}
			}
		}
	}
	long := impl.Program{Rules: slices.Repeat([]impl.Rule{plainRule("f")}, 300000)}
	if head, whole := impl.HeadOf(long, con("N"), 9), impl.EvalExpr(long, con("N"), 9); outcomeText(head) != "bad 0" || outcomeText(whole) != "bad 0" {
		t.Errorf("a very long program ends with %s and %s", outcomeText(head), outcomeText(whole))
	}
}

// TestSlowEvaluations has steps that make as much as they can, on as many calls
// as there can be below each other.
func TestSlowEvaluations(t *testing.T) {
	nest := func(levels int, inner impl.Expr) impl.Expr {
		for range levels {
			inner = call("m", inner)
		}
		return inner
	}
	p := programOf(t, "m(A) = A; f(x) = x; g(x) = x; k(x) = x")
	p.Rules[1].Body = nest(depthLimit-2, call("f", con("A")))
	p.Rules[2].Body = con("V", copies(argsLimit-1, nest(15, call("g", variable("x"))))...)
	p.Rules[3].Body = con("W", append(copies(argsLimit-1, variable("x")), call("k", con("W", copies(argsLimit, variable("x"))...)))...)
	checkValid(t, p)
	for _, text := range []string{"f(A)", "g(A)", "k(A)"} {
		checkRun(t, p, exprOf(t, text), fuelLimit)
	}
}

// TestOutcomesShareNoMemory has values of which parts come from the same part of
// an argument.
func TestOutcomesShareNoMemory(t *testing.T) {
	p := programOf(t, plains+"; big() = C(Z,C(S(Z),N)); tl(C(h,t)) = t; whole(C(h,t)) = P(P(h,t),P(h,t))")
	part := con("S", con("S", con("Z")), con("Rest"))
	part.Args = part.Args[:1]
	o := owner{}
	for _, r := range p.Rules {
		o.mustOwn(t, "a Body", memoryOf(r.Body))
	}
	for _, at := range memoryOf(part) {
		o[at] = "an argument"
	}
	for _, e := range []impl.Expr{
		part, con("P", part, part), call("id", part), call("dup", part), call("dup", call("dup", part)), call("swap", part, part), call("big"), call("tl", call("big")), call("whole", call("big")),
		call("tl", con("C", part, con("C", part, part))), call("dup", call("big")), con("P", call("whole", con("C", part, part)), part),
	} {
		for _, at := range memoryOf(e) {
			o[at] = "an argument"
		}
		for range 2 {
			head, whole := impl.HeadOf(p, e, 50), impl.EvalExpr(p, e, 50)
			if head.Status != impl.EvEnded || whole.Status != impl.EvEnded {
				t.Errorf("%s ends with %s and %s", textOf(e), outcomeText(head), outcomeText(whole))
			}
			o.mustOwn(t, "HeadOf "+textOf(e), memoryOf(head.Value))
			o.mustOwn(t, "EvalExpr "+textOf(e), memoryOf(whole.Value))
		}
	}
}

// wholeProgram shows a program with what is in the capacities of its slices.
func wholeProgram(p impl.Program) string {
	text := strconv.Itoa(len(p.Rules))
	for _, r := range p.Rules[:cap(p.Rules)] {
		text += " " + strconv.Quote(r.Name+" "+r.Con) + namesText(r.Vars[:cap(r.Vars)]) + namesText(r.Params[:cap(r.Params)]) + wholeText(r.Body)
	}
	return text
}

// TestMachineLeavesArgumentsAlone covers promise 34 for chapter 8.
func TestMachineLeavesArgumentsAlone(t *testing.T) {
	vars := []string{"h", "t", "rest", "more", "u"}
	params := []string{"y", "rest", "more"}
	args := []impl.Expr{call("app", con("N"), con("N")), con("C", con("Z"), con("N")), con("Rest"), con("More")}
	body := []impl.Expr{variable("h"), call("app", variable("t"), variable("y")), con("Rest"), con("More")}
	p := programOf(t, lengths+"; id(x) = x; inf(x) = C(x,inf(x))")
	p.Rules[1].Vars, p.Rules[1].Params, p.Rules[1].Body.Args = vars[:2], params[:1], body[:2]
	p.Rules = append(p.Rules, impl.Rule{Name: "rest"}, impl.Rule{Name: "rest"})[:6]
	list := []impl.Expr{call("app", args[:2]...), con("P", args[:2]...), call("id", con("C", args[:2]...)), call("len", con("C", args[:2]...)), call("len", call("inf", con("P", args[:2]...))), call("app", con("C", args[:2]...), con("N")), call("app", con("C", args[:1]...)), con("Q", con("P", args[:2]...), stuck())}
	shown := func() string {
		text := wholeProgram(p) + namesText(vars) + namesText(params)
		for _, e := range list {
			text += wholeText(e)
		}
		return text
	}
	before := shown()
	for _, name := range []string{"id", "app"} {
		p.Rules[4].Name = name
		before := shown()
		for _, e := range list {
			for _, fuel := range []int{-1, 0, 1, 3, fuelLimit} {
				checkRun(t, p, e, fuel)
			}
		}
		if after := shown(); after != before {
			t.Fatalf("the arguments became %s, before %s", after, before)
		}
	}
	p.Rules[4].Name = "id"
	if after := shown(); after != before {
		t.Errorf("the arguments became %s, before %s", after, before)
	}
}
