package table

import "iter"

// position is how far the nodes of a tree were passed in the order of their
// keys.
type position struct {
	// ahead are nodes that were not passed, the next one last: these and their
	// right subtrees are all that is ahead. They are kept because a node can't
	// know the one above it: in each tree that has it, that is another one.
	ahead []*node
}

// before returns the position before the first node whose key is not below
// from.
func (n *node) before(from string) *position {
	p := &position{}
	p.enter(n, from)
	return p
}

// enter puts the position before the first node of a tree whose key is not
// below from; what was ahead comes after that tree.
func (p *position) enter(n *node, from string) {
	for n != nil {
		if n.key < from {
			n = n.right
		} else {
			p.ahead = append(p.ahead, n)
			n = n.left
		}
	}
}

// next returns the next node, which is not passed, and nil at the end.
func (p *position) next() *node {
	if len(p.ahead) == 0 {
		return nil
	}
	return p.ahead[len(p.ahead)-1]
}

// step passes the next node.
func (p *position) step() {
	n := p.next()
	p.ahead = p.ahead[:len(p.ahead)-1]
	p.enter(n.right, "")
}

// pass passes the next node if it has the key, and returns it, and otherwise
// nil.
func (p *position) pass(key string) *node {
	n := p.next()
	if n == nil || n.key != key {
		return nil
	}
	p.step()
	return n
}

// while passes nodes, and yields them, up to the first one that is not meant.
func (p *position) while(meant func(*node) bool) iter.Seq[*node] {
	return func(yield func(*node) bool) {
		for n := p.next(); n != nil && meant(n); n = p.next() {
			p.step()
			if !yield(n) {
				return
			}
		}
	}
}

// ascending passes all nodes, and yields them.
func (p *position) ascending() iter.Seq[*node] {
	return p.while(func(*node) bool { return true })
}

// below passes the nodes whose keys are below key, and yields them.
func (p *position) below(key string) iter.Seq[*node] {
	return p.while(func(n *node) bool { return n.key < key })
}

// downward yields all nodes of a tree, each before its left subtree, and this
// before its right one.
func (n *node) downward() iter.Seq[*node] {
	return func(yield func(*node) bool) {
		for todo := []*node{n}; len(todo) > 0; {
			n := todo[len(todo)-1]
			todo = todo[:len(todo)-1]
			if n == nil {
				continue
			}
			if !yield(n) {
				return
			}
			todo = append(todo, n.right, n.left)
		}
	}
}
