package pins

import "cmp"

// pair is a key with its value. It lies apart from the knots, so that a knot that is made anew copies neither.
type pair[K cmp.Ordered, V any] struct {
	key   K
	value V
}

// knot of a tree of pairs: lesser keys are on its left, greater ones on its right, and neither side is more than one higher than the other. A knot is never changed: a tree with something put or deleted is a new one, which shares all knots that are as they were, and so a loop goes on over the tree that it began with. No knot (nil) is the empty tree.
type knot[K cmp.Ordered, V any] struct {
	*pair[K, V]
	left, right *knot[K, V]
	height      int
}

// above is a knot with that pair, above two trees of which neither is more than one higher.
func above[K cmp.Ordered, V any](left *knot[K, V], p *pair[K, V], right *knot[K, V]) *knot[K, V] {
	return &knot[K, V]{pair: p, left: left, right: right, height: 1 + max(left.high(), right.high())}
}

// level is the tree of that pair and two trees, of which one may be two higher: a pair of that one's comes to the top then.
func level[K cmp.Ordered, V any](left *knot[K, V], p *pair[K, V], right *knot[K, V]) *knot[K, V] {
	switch lean := left.high() - right.high(); {
	case lean > 1:
		inner := left.right
		if inner.high() > left.left.high() {
			return above(above(left.left, left.pair, inner.left), inner.pair, above(inner.right, p, right))
		}
		return above(left.left, left.pair, above(inner, p, right))
	case lean < -1:
		inner := right.left
		if inner.high() > right.right.high() {
			return above(above(left, p, inner.left), inner.pair, above(inner.right, right.pair, right.right))
		}
		return above(above(left, p, inner), right.pair, right.right)
	}
	return above(left, p, right)
}

// high tells how many knots the longest way down has.
func (k *knot[K, V]) high() int {
	if k == nil {
		return 0
	}
	return k.height
}

// find is the pair of a key; nil: there is none.
func (k *knot[K, V]) find(key K) *pair[K, V] {
	for k != nil {
		switch c := cmp.Compare(key, k.key); {
		case c < 0:
			k = k.left
		case c > 0:
			k = k.right
		default:
			return k.pair
		}
	}
	return nil
}

// least is the pair with the least key; nil: there is none.
func (k *knot[K, V]) least() *pair[K, V] {
	if k == nil {
		return nil
	}
	for k.left != nil {
		k = k.left
	}
	return k.pair
}

// with is the tree with that pair, in the place of the one that has its key, if there is one.
func (k *knot[K, V]) with(p *pair[K, V]) *knot[K, V] {
	if k == nil {
		return above(nil, p, nil)
	}
	switch c := cmp.Compare(p.key, k.key); {
	case c < 0:
		return level(k.left.with(p), k.pair, k.right)
	case c > 0:
		return level(k.left, k.pair, k.right.with(p))
	}
	return above(k.left, p, k.right)
}

// without is the tree without the pair of that key, which is in it.
func (k *knot[K, V]) without(key K) *knot[K, V] {
	switch c := cmp.Compare(key, k.key); {
	case c < 0:
		return level(k.left.without(key), k.pair, k.right)
	case c > 0:
		return level(k.left, k.pair, k.right.without(key))
	case k.right == nil:
		return k.left
	}
	next := k.right.least()
	return level(k.left, next, k.right.without(next.key))
}

// each tells all pairs, by rising key; false: the loop was left.
func (k *knot[K, V]) each(yield func(K, V) bool) bool {
	return k == nil || k.left.each(yield) && yield(k.key, k.value) && k.right.each(yield)
}

// from tells the pairs whose keys are not ahead of first, by rising key; false: the loop was left.
func (k *knot[K, V]) from(first K, yield func(K, V) bool) bool {
	if k == nil {
		return true
	}
	if cmp.Less(k.key, first) {
		return k.right.from(first, yield)
	}
	return k.left.from(first, yield) && yield(k.key, k.value) && k.right.each(yield)
}
