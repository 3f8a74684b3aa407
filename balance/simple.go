package balance

import "commodatum/api"

// replaced returns the valid formula f with what leaf returns in the place of each FVar and FConst, in new memory.
func replaced(f api.Formula, leaf func(api.Formula) api.Formula) api.Formula {
	if len(f.Kids) == 0 {
		return leaf(api.Formula{Kind: f.Kind, N: f.N})
	}
	kids := make([]api.Formula, len(f.Kids))
	for i, kid := range f.Kids {
		kids[i] = replaced(kid, leaf)
	}
	return api.Formula{Kind: f.Kind, Kids: kids}
}

// simplified returns the valid formula f without FConst, unless it is one itself, and without double FNot, in new
// memory.
func simplified(f api.Formula) api.Formula {
	switch f.Kind {
	case api.FVar, api.FConst:
		return api.Formula{Kind: f.Kind, N: f.N}
	case api.FNot:
		return negated(simplified(f.Kids[0]))
	}
	return joined(f.Kind, simplified(f.Kids[0]), simplified(f.Kids[1]))
}

// negated returns the negation of f, which is simplified, as simplified.
func negated(f api.Formula) api.Formula {
	switch f.Kind {
	case api.FConst:
		return constant(f.N == 0)
	case api.FNot:
		return f.Kids[0]
	}
	return api.Formula{Kind: api.FNot, Kids: []api.Formula{f}}
}

// joined returns the simplified formula of this kind, FAnd, FOr or FXor, whose kids are a and b, which are simplified.
func joined(kind int, a, b api.Formula) api.Formula {
	if a.Kind == api.FConst {
		return joinedWith(kind, a.N == 1, b)
	}
	if b.Kind == api.FConst {
		return joinedWith(kind, b.N == 1, a)
	}
	return api.Formula{Kind: kind, Kids: []api.Formula{a, b}}
}

// joinedWith is joined where one of the kids is a constant.
func joinedWith(kind int, value bool, f api.Formula) api.Formula {
	switch {
	case kind == api.FXor && value:
		return negated(f)
	case kind == api.FAnd && !value, kind == api.FOr && value:
		return constant(value)
	}
	return f
}

// constant returns the FConst with this value.
func constant(value bool) api.Formula {
	if value {
		return api.Formula{Kind: api.FConst, N: 1}
	}
	return api.Formula{Kind: api.FConst}
}
