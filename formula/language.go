package formula

import (
	"commodatum/api"
	"commodatum/field"
)

// shape is what nodes of one kind have in common.
type shape struct {
	opening string // the beginning of the textual form
	numbers int    // N is from 0 to numbers - 1
	kids    int
	depth   int // how much the depth is more than that of the kids
}

// language is what formulas (T is api.Formula) and expressions over a field (T is api.Expr) differ in. The kinds 0
// and 1 are those of variables and constants in both of them.
type language[T any] struct {
	shapes []shape // by kind
	split  func(t T) (kind, n int, kids []T)
	join   func(kind, n int, kids []T) T
}

// formulas returns the language of the formulas.
func formulas() language[api.Formula] {
	return language[api.Formula]{
		shapes: []shape{
			api.FVar:   {"x", api.MaxInputs, 0, 0},
			api.FConst: {"", 2, 0, 0},
			api.FNot:   {"not(", 1, 1, 0},
			api.FAnd:   {"and(", 1, 2, 1},
			api.FOr:    {"or(", 1, 2, 1},
			api.FXor:   {"xor(", 1, 2, 2},
		},
		split: func(f api.Formula) (int, int, []api.Formula) { return f.Kind, f.N, f.Kids },
		join: func(kind, n int, kids []api.Formula) api.Formula {
			return api.Formula{Kind: kind, N: n, Kids: kids}
		},
	}
}

// expressions returns the language of the expressions over the valid field f.
func expressions(f api.Field) language[api.Expr] {
	return language[api.Expr]{
		shapes: []shape{
			api.EVar:   {"x", api.MaxInputs, 0, 0},
			api.EConst: {"", field.Order(f), 0, 0},
			api.EAdd:   {"add(", 1, 2, 1},
			api.EMul:   {"mul(", 1, 2, 1},
		},
		split: func(e api.Expr) (int, int, []api.Expr) { return e.Kind, e.N, e.Kids },
		join: func(kind, n int, kids []api.Expr) api.Expr {
			return api.Expr{Kind: kind, N: n, Kids: kids}
		},
	}
}

// measures are the numbers that describe a formula or an expression.
type measures struct{ nodes, inputs, size, depth int }

// unmeasured are the measures of what is not valid.
func unmeasured() measures { return measures{-1, -1, -1, -1} }

// measure returns the measures of t, and whether t is valid.
func (l language[T]) measure(t T) (measures, bool) {
	var m measures
	depth, ok := l.visit(t, 1, &m)
	if !ok {
		return unmeasured(), false
	}
	m.depth = depth
	return m, true
}

// visit adds t, which is nested that deep, to the measures, and returns its depth. It reports false as soon as it finds
// that something is not valid.
func (l language[T]) visit(t T, nesting int, m *measures) (int, bool) {
	kind, n, kids := l.split(t)
	// Lists of kids may share memory, and even contain themselves. The limits end the visit in any case.
	m.nodes++
	if m.nodes > api.MaxNodes || nesting > api.MaxDepth || !l.permits(kind, n, len(kids)) {
		return 0, false
	}
	if len(kids) == 0 {
		m.size++
	}
	if kind == api.FVar {
		m.inputs = max(m.inputs, n+1)
	}
	depth := 0
	for _, kid := range kids {
		d, ok := l.visit(kid, nesting+1, m)
		if !ok {
			return 0, false
		}
		depth = max(depth, d)
	}
	return depth + l.shapes[kind].depth, true
}

// permits reports whether there are nodes with this kind, this N and this number of kids.
func (l language[T]) permits(kind, n, kids int) bool {
	if kind < 0 || kind >= len(l.shapes) {
		return false
	}
	s := l.shapes[kind]
	return n >= 0 && n < s.numbers && kids == s.kids
}
