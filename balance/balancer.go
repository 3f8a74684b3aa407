package balance

import "commodatum/api"

// balancer makes one tree of small depth.
type balancer struct {
	nodes int // at least so many will be in that tree
}

// leastDepth returns a depth that all trees of this size can be given: each of the two thirds, again and again, takes 2
// levels.
func leastDepth(size int) int {
	depth := 0
	for ; size > 1; size = size * 2 / 3 {
		depth += 2
	}
	return depth
}

// balanced returns a tree with the same function whose depth is at most this one, which is at least the leastDepth for
// the size of t. If the whole tree gets too many nodes, it may return anything that has as many.
func (b *balancer) balanced(t *tree, depth int) *tree {
	if t.depth <= depth || b.nodes > api.MaxNodes {
		b.nodes += t.nodes
		return t
	}
	part, w := halved(t)
	kind, factor := sum, w.factor()
	if w.has(difference) {
		kind, factor = difference, w.condition()
	}
	off, outer := w.off(), depth
	if off != nil {
		outer -= levels(kind)
	}
	inner := outer
	if factor != nil {
		inner -= levels(product)
	}
	// Only a difference with a factor takes more than 2 levels.
	if inner < depth-2 && inner < leastDepth(max(part.size, t.size-part.size)) {
		return b.chosen(part, w, depth-2)
	}
	result := b.balanced(part, inner)
	if factor != nil {
		result = join(product, b.balanced(factor, inner), result)
	}
	if off != nil {
		result = join(kind, b.balanced(off, outer), result)
	}
	return result
}

// chosen returns a formula's tree that consists of one tree for where the part is true, and of one for where it is not,
// made of trees of at most this depth. It takes 2 levels in any case, but contains the part twice.
func (b *balancer) chosen(part *tree, w way, depth int) *tree {
	yes := join(product, b.balanced(part, depth), b.balanced(w.on(), depth))
	no := join(product, b.balanced(part.not(), depth), b.balanced(w.off(), depth))
	return join(sum, yes, no)
}
