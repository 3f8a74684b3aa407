package balance_test

import (
	"testing"

	"commodatum/api"
	"commodatum/balance"
)

// checkPush checks all that the chapter says of Push of f, and returns its error.
func checkPush(t *testing.T, f api.Formula) api.Errno {
	t.Helper()
	old := copyOf(f)
	g, e := balance.Push(f)
	n := numbersOf(f)
	mayFail := n.size > 12 && (contains(f, isXor) || n.size > 6000 || n.nesting > 400)
	if !succeeded(t, "Push", f, g, e, mayFail) {
		return e
	}
	wantSame(t, "Push", f, g)
	if numbersOf(g).depth > n.depth {
		t.Fatalf("Push of %s = %s: depth %d of %d", brief(f), brief(g), numbersOf(g).depth, n.depth)
	}
	wantPushed(t, f, g)
	wantOwnMemory(t, "Push", old, f, g)
	return e
}

// wantPushed fails unless g has the form of what Push returns.
func wantPushed(t *testing.T, f, g api.Formula) {
	t.Helper()
	isBad := func(h api.Formula) bool {
		return h.Kind == api.FXor || h.Kind == api.FConst || h.Kind == api.FNot && h.Kids[0].Kind != api.FVar
	}
	if g.Kind != api.FConst && contains(g, isBad) {
		t.Fatalf("Push of %s = %s", brief(f), brief(g))
	}
}

// checkBalance checks all that the chapter says of Balance of f, and returns its error.
func checkBalance(t *testing.T, f api.Formula) api.Errno {
	t.Helper()
	old := copyOf(f)
	g, e := balance.Balance(f)
	n := numbersOf(f)
	if !succeeded(t, "Balance", f, g, e, n.size > 60) {
		return e
	}
	wantSame(t, "Balance", f, g)
	if depth := numbersOf(g).depth; depth > depthLimit(n.size) {
		t.Fatalf("Balance of %s = %s: size %d, depth %d", brief(f), brief(g), n.size, depth)
	}
	wantOwnMemory(t, "Balance", old, f, g)
	return e
}

// checkSimple checks all that the chapter says of Simple of f.
func checkSimple(t *testing.T, f api.Formula) {
	t.Helper()
	old := copyOf(f)
	g, e := balance.Simple(f)
	succeeded(t, "Simple", f, g, e, false)
	wantSame(t, "Simple", f, g)
	wantNoGreater(t, "Simple", f, g)
	isDouble := func(h api.Formula) bool { return h.Kind == api.FNot && h.Kids[0].Kind == api.FNot }
	if contains(g, isDouble) || g.Kind != api.FConst && contains(g, isConst) {
		t.Fatalf("Simple of %s = %s", brief(f), brief(g))
	}
	wantOwnMemory(t, "Simple", old, f, g)
}

// checkFix checks all that the chapter says of Fix of f, and returns the formula.
func checkFix(t *testing.T, f api.Formula, input int, value bool) api.Formula {
	t.Helper()
	old := copyOf(f)
	g, e := balance.Fix(f, input, value)
	succeeded(t, "Fix", f, g, e, false)
	wantNoGreater(t, "Fix", f, g)
	if usedInputs(g)[input] {
		t.Fatalf("Fix(%s, %d, %v) = %s", brief(f), input, value, brief(g))
	}
	wantSame(t, "Fix", withInput(f, input, value), g)
	wantOwnMemory(t, "Fix", old, f, g)
	return g
}

// withInput returns f with a constant for an input.
func withInput(f api.Formula, input int, value bool) api.Formula {
	if f.Kind == api.FVar && f.N == input {
		if value {
			return bit(1)
		}
		return bit(0)
	}
	kids := make([]api.Formula, len(f.Kids))
	for i, kid := range f.Kids {
		kids[i] = withInput(kid, input, value)
	}
	return api.Formula{Kind: f.Kind, N: f.N, Kids: kids}
}

// checkBalanceExpr checks all that the chapter says of BalanceExpr of e, and returns its error.
func checkBalanceExpr(t *testing.T, f api.Field, e api.Expr) api.Errno {
	t.Helper()
	old := copyOfExpr(e)
	g, err := balance.BalanceExpr(f, e)
	size := numbersOfExpr(e).size
	if err == api.ErrSize && size > 60 && isZeroExpr(g) {
		return err
	}
	if err != api.OK {
		t.Fatalf("%v: BalanceExpr of %s = %s, %v", f, briefExpr(e), briefExpr(g), err)
	}
	wantSameExpr(t, f, e, g)
	if depth := numbersOfExpr(g).depth; depth > depthLimit(size) {
		t.Fatalf("%v: BalanceExpr of %s = %s: size %d, depth %d", f, briefExpr(e), briefExpr(g), size, depth)
	}
	if !equalExpr(e, old) {
		t.Fatalf("%v: BalanceExpr changed %s to %s", f, briefExpr(old), briefExpr(e))
	}
	m := memory{}
	m.addExpr(nil, e)
	m.addExpr(t, g)
	return err
}

// succeeded reports whether a call returned OK. It fails if the call returned an error that it must not return, or
// anything else with it.
func succeeded(t *testing.T, what string, f, g api.Formula, e api.Errno, mayFail bool) bool {
	t.Helper()
	if e == api.ErrSize && mayFail && isZero(g) {
		return false
	}
	if e != api.OK {
		t.Fatalf("%s of %s = %s, %v", what, brief(f), brief(g), e)
	}
	return true
}

// wantNoGreater fails if g has a greater size, depth or nesting than f.
func wantNoGreater(t *testing.T, what string, f, g api.Formula) {
	t.Helper()
	n, m := numbersOf(f), numbersOf(g)
	if m.size > n.size || m.depth > n.depth || m.nesting > n.nesting {
		t.Fatalf("%s of %s = %s: %v, not at most %v", what, brief(f), brief(g), m, n)
	}
}

// wantOwnMemory fails if f, which was old, has been changed, or if g shares memory with f or with itself.
func wantOwnMemory(t *testing.T, what string, old, f, g api.Formula) {
	t.Helper()
	if !equal(f, old) {
		t.Fatalf("%s changed %s to %s", what, brief(old), brief(f))
	}
	m := memory{}
	m.addFormula(nil, f)
	m.addFormula(t, g)
}

// memory is where slices have their elements, also those behind the end of the slices.
type memory map[any]bool

// addFormula adds the lists of kids, and fails if some of their memory is met again, unless t is nil.
func (m memory) addFormula(t *testing.T, f api.Formula) {
	room := f.Kids[:cap(f.Kids)]
	for i := range room {
		m.add(t, &room[i])
	}
	for _, kid := range f.Kids {
		m.addFormula(t, kid)
	}
}

// addExpr is addFormula for expressions.
func (m memory) addExpr(t *testing.T, e api.Expr) {
	room := e.Kids[:cap(e.Kids)]
	for i := range room {
		m.add(t, &room[i])
	}
	for _, kid := range e.Kids {
		m.addExpr(t, kid)
	}
}

func (m memory) add(t *testing.T, place any) {
	if t != nil && m[place] {
		t.Fatal("memory is shared")
	}
	m[place] = true
}
