package span

import (
	"cmp"

	"ringhall/api"
)

// node is an element with the subtree below it; nil is the empty subtree. The
// heights of the two sides of a node differ by at most 1, as in every AVL tree:
// that keeps the height of n elements below 1.45 times the bits of n, plus 1.
type node[K cmp.Ordered] struct {
	key         K
	id, weight  int
	left, right *node[K] // what is smaller, what is greater
	levels, sum int      // of the whole subtree: its height, and all its weights
}

// tell what an element consists of.
func (n *node[K]) tell() (K, int, int, api.Errno) {
	if n == nil {
		var none K
		return none, 0, 0, api.ErrNone
	}
	return n.key, n.id, n.weight, api.OK
}

// order is below 0 if the element is smaller than a place. Only cmp.Compare,
// unlike <, has a place for keys that are not numbers.
func (n *node[K]) order(key K, id int) int {
	return cmp.Or(cmp.Compare(n.key, key), cmp.Compare(n.id, id))
}

func (n *node[K]) height() int {
	if n == nil {
		return 0
	}
	return n.levels
}

func (n *node[K]) total() int {
	if n == nil {
		return 0
	}
	return n.sum
}

// least is the smallest element of a subtree.
func (n *node[K]) least() *node[K] {
	for n != nil && n.left != nil {
		n = n.left
	}
	return n
}

// with puts a new element into a subtree, and returns the subtree's new top.
func (n *node[K]) with(x *node[K]) *node[K] {
	switch {
	case n == nil:
		n = x
	case n.order(x.key, x.id) > 0:
		n.left = n.left.with(x)
	default:
		n.right = n.right.with(x)
	}
	return n.balanced()
}

// without takes an element out of a subtree that has it, and returns the
// subtree's new top.
func (n *node[K]) without(key K, id int) *node[K] {
	switch c := n.order(key, id); {
	case c > 0:
		n.left = n.left.without(key, id)
	case c < 0:
		n.right = n.right.without(key, id)
	case n.left == nil:
		return n.right
	case n.right == nil:
		return n.left
	default:
		// With something on both sides, the next greater element, which has
		// nothing on its left, comes up into the gap.
		next := n.right.least()
		next.right = n.right.without(next.key, next.id)
		next.left = n.left
		n = next
	}
	return n.balanced()
}

// balanced measures a node anew after one element came to one of its sides or
// went from it, turns it if that side differs too much from the other one now,
// and returns the top.
func (n *node[K]) balanced() *node[K] {
	switch tilt := n.tilt(); {
	case tilt < -1:
		if n.left.tilt() > 0 {
			n.left = n.left.turnLeft()
		}
		return n.turnRight()
	case tilt > 1:
		if n.right.tilt() < 0 {
			n.right = n.right.turnRight()
		}
		return n.turnLeft()
	}
	n.measure()
	return n
}

// tilt is above 0 if the right side is the higher one.
func (n *node[K]) tilt() int {
	return n.right.height() - n.left.height()
}

// turnLeft brings the top of the right side up, and n down to its left.
func (n *node[K]) turnLeft() *node[K] {
	top := n.right
	n.right, top.left = top.left, n
	n.measure()
	top.measure()
	return top
}

// turnRight brings the top of the left side up, and n down to its right.
func (n *node[K]) turnRight() *node[K] {
	top := n.left
	n.left, top.right = top.right, n
	n.measure()
	top.measure()
	return top
}

// measure the subtree from its two sides, which are measured already.
func (n *node[K]) measure() {
	n.levels = 1 + max(n.left.height(), n.right.height())
	n.sum = n.weight + n.left.total() + n.right.total()
}
