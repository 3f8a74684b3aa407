package formula_test

import (
	"fmt"
	"regexp"
	"strconv"
	"strings"

	"commodatum/api"
	"commodatum/field"
)

// trueAt is the value of a formula by the definition of its kinds.
func trueAt(f api.Formula, at []bool) bool {
	switch f.Kind {
	case api.FVar:
		return at[f.N]
	case api.FConst:
		return f.N == 1
	case api.FNot:
		return !trueAt(f.Kids[0], at)
	case api.FAnd:
		return trueAt(f.Kids[0], at) && trueAt(f.Kids[1], at)
	case api.FOr:
		return trueAt(f.Kids[0], at) || trueAt(f.Kids[1], at)
	case api.FXor:
		return trueAt(f.Kids[0], at) != trueAt(f.Kids[1], at)
	}
	panic(f.Kind)
}

// elementAt is the value of an expression by the definition of its kinds.
func elementAt(f api.Field, e api.Expr, at []int) int {
	switch e.Kind {
	case api.EVar:
		return at[e.N]
	case api.EConst:
		return e.N
	case api.EAdd:
		value, _ := field.Add(f, elementAt(f, e.Kids[0], at), elementAt(f, e.Kids[1], at))
		return value
	case api.EMul:
		value, _ := field.Mul(f, elementAt(f, e.Kids[0], at), elementAt(f, e.Kids[1], at))
		return value
	}
	panic(e.Kind)
}

// writeFormula returns the textual form, also of formulas that are not valid.
func writeFormula(f api.Formula) string {
	switch {
	case f.Kind == api.FVar && len(f.Kids) == 0:
		return fmt.Sprint("x", f.N)
	case f.Kind == api.FConst && len(f.Kids) == 0:
		return fmt.Sprint(f.N)
	case f.Kind == api.FNot && len(f.Kids) == 1:
		return "not(" + writeFormula(f.Kids[0]) + ")"
	case f.Kind > api.FNot && f.Kind < api.FKinds && len(f.Kids) == 2:
		name := map[int]string{api.FAnd: "and", api.FOr: "or", api.FXor: "xor"}[f.Kind]
		return name + "(" + writeFormula(f.Kids[0]) + ", " + writeFormula(f.Kids[1]) + ")"
	}
	return fmt.Sprintf("kind %d with %d kids", f.Kind, len(f.Kids))
}

// writeExpr returns the textual form, also of expressions that are not valid.
func writeExpr(e api.Expr) string {
	switch {
	case e.Kind == api.EVar && len(e.Kids) == 0:
		return fmt.Sprint("x", e.N)
	case e.Kind == api.EConst && len(e.Kids) == 0:
		return fmt.Sprint(e.N)
	case e.Kind > api.EConst && e.Kind < api.EKinds && len(e.Kids) == 2:
		name := map[int]string{api.EAdd: "add", api.EMul: "mul"}[e.Kind]
		return name + "(" + writeExpr(e.Kids[0]) + ", " + writeExpr(e.Kids[1]) + ")"
	}
	return fmt.Sprintf("kind %d with %d kids", e.Kind, len(e.Kids))
}

// numbers are all the numbers of a formula.
type numbers struct{ nodes, nesting, inputs, size, depth int }

// numbersOf counts them by their definitions.
func numbersOf(f api.Formula) numbers {
	switch f.Kind {
	case api.FVar:
		return numbers{1, 1, f.N + 1, 1, 0}
	case api.FConst:
		return numbers{1, 1, 0, 1, 0}
	}
	n := numbersOf(f.Kids[0])
	if f.Kind != api.FNot {
		m := numbersOf(f.Kids[1])
		n = numbers{n.nodes + m.nodes, max(n.nesting, m.nesting), max(n.inputs, m.inputs), n.size + m.size, max(n.depth, m.depth) + 1}
	}
	if f.Kind == api.FXor {
		n.depth++
	}
	n.nodes++
	n.nesting++
	return n
}

// numbersOfExpr is numbersOf for expressions.
func numbersOfExpr(e api.Expr) numbers {
	switch e.Kind {
	case api.EVar:
		return numbers{1, 1, e.N + 1, 1, 0}
	case api.EConst:
		return numbers{1, 1, 0, 1, 0}
	}
	n, m := numbersOfExpr(e.Kids[0]), numbersOfExpr(e.Kids[1])
	return numbers{n.nodes + m.nodes + 1, max(n.nesting, m.nesting) + 1, max(n.inputs, m.inputs), n.size + m.size, max(n.depth, m.depth) + 1}
}

// usedInputs are the inputs of a formula.
func usedInputs(f api.Formula) map[int]bool {
	used := map[int]bool{}
	if f.Kind == api.FVar {
		used[f.N] = true
	}
	for _, kid := range f.Kids {
		for i := range usedInputs(kid) {
			used[i] = true
		}
	}
	return used
}

// usedInputsOfExpr are the inputs of an expression.
func usedInputsOfExpr(e api.Expr) map[int]bool {
	used := map[int]bool{}
	if e.Kind == api.EVar {
		used[e.N] = true
	}
	for _, kid := range e.Kids {
		for i := range usedInputsOfExpr(kid) {
			used[i] = true
		}
	}
	return used
}

// leafText are the parts of a text that may be leaves.
var leafText = regexp.MustCompile(`x?[0-9]+`)

// mark stands for a formula or an expression that has been found in a text.
const mark = "\x00"

// rewrite reports whether s is a textual form, whatever its number of nodes and its nesting: the leaves are replaced
// by marks, and then, again and again, nodes whose kids are marks.
func rewrite(s string, constants int, unary, binary []string) bool {
	if strings.Contains(s, mark) {
		return false
	}
	s = leafText.ReplaceAllStringFunc(s, func(leaf string) string {
		digits, isVariable := strings.CutPrefix(leaf, "x")
		limit := constants
		if isVariable {
			limit = api.MaxInputs
		}
		n, e := strconv.Atoi(digits)
		if e != nil || n >= limit || len(digits) > 1 && digits[0] == '0' {
			return leaf
		}
		return mark
	})
	var pairs []string
	for _, name := range unary {
		pairs = append(pairs, name+"("+mark+")", mark)
	}
	for _, name := range binary {
		pairs = append(pairs, name+"("+mark+", "+mark+")", mark)
	}
	replacer := strings.NewReplacer(pairs...)
	for {
		next := replacer.Replace(s)
		if next == s {
			return s == mark
		}
		s = next
	}
}
