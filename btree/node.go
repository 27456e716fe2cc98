package btree

import (
	"slices"
	"strings"

	"jobcase/api"
)

const (
	least = 1 // entries of a node
	most  = 3
)

// wrong is the depth of what is no tree.
const wrong = -1

type item struct {
	key   string
	entry api.Entry
}

// node: below[i] has the keys between those of items[i-1] and items[i]; a leaf has none below it.
// While a tree is changed one node may have too few or too many items; the one above it mends that.
type node struct {
	items []item
	below []*node
}

func (n *node) leaf() bool { return len(n.below) == 0 }

func (n *node) over() bool { return len(n.items) > most }

// find where a key stands, or would: there all keys ahead are lower.
func (n *node) find(key string) (at int, is bool) {
	return slices.BinarySearchFunc(n.items, key, func(it item, key string) int {
		return strings.Compare(it.key, key)
	})
}

// walk over the entries whose keys are above one, in order, as long as see wants more: does it still?
func (n *node) walk(key string, see func(api.Entry) bool) bool {
	at, _ := n.find(key)
	for i := at; i <= len(n.items); i++ {
		if !n.leaf() && !n.below[i].walk(key, see) {
			return false
		}
		if i < len(n.items) && n.items[i].key > key && !see(n.items[i].entry) {
			return false
		}
	}
	return true
}

// put may leave the node itself with too many items.
func (n *node) put(it item) {
	at, is := n.find(it.key)
	if is {
		n.items[at] = it
		return
	}
	if n.leaf() {
		n.items = slices.Insert(n.items, at, it)
		return
	}
	n.below[at].put(it)
	if n.below[at].over() {
		n.split(at)
	}
}

// split the node below that has too many: one of its items comes up, between both halves.
func (n *node) split(at int) {
	low := n.below[at]
	mid := len(low.items) / 2
	high := &node{items: slices.Clone(low.items[mid+1:])}
	n.items = slices.Insert(n.items, at, low.items[mid])
	n.below = slices.Insert(n.below, at+1, high)
	low.items = slices.Clone(low.items[:mid])
	if !low.leaf() {
		high.below = slices.Clone(low.below[mid+1:])
		low.below = slices.Clone(low.below[:mid+1])
	}
}

// drop may leave the node itself with too few items.
func (n *node) drop(key string) bool {
	at, is := n.find(key)
	if n.leaf() {
		if is {
			n.items = slices.Delete(n.items, at, at+1)
		}
		return is
	}
	if is { // only a leaf can lose an item: the next lower one takes the place
		n.items[at] = n.below[at].dropLast()
	} else {
		is = n.below[at].drop(key)
	}
	n.mend(at)
	return is
}

// dropLast drops the item with the highest key, and may leave the node itself with too few.
func (n *node) dropLast() item {
	end := len(n.items)
	if n.leaf() {
		last := n.items[end-1]
		n.items = slices.Delete(n.items, end-1, end)
		return last
	}
	last := n.below[end].dropLast()
	n.mend(end)
	return last
}

// mend the node below, if it has too few items, by one beside it.
func (n *node) mend(at int) {
	if len(n.below[at].items) >= least {
		return
	}
	at = min(at, len(n.items)-1) // the last one has none behind it: the one ahead of it serves
	n.join(at)
	if n.below[at].over() {
		n.split(at)
	}
}

// join two nodes below, and the item between them, into one.
func (n *node) join(at int) {
	low, high := n.below[at], n.below[at+1]
	low.items = append(append(low.items, n.items[at]), high.items...)
	low.below = append(low.below, high.below...)
	n.items = slices.Delete(n.items, at, at+1)
	n.below = slices.Delete(n.below, at+1, at+2)
}

// deep is wrong, if anything below is.
func (n *node) deep() int {
	if len(n.items) < least || len(n.items) > most {
		return wrong
	}
	if n.leaf() {
		return 1
	}
	if len(n.below) != len(n.items)+1 {
		return wrong
	}
	deep := n.below[0].deep()
	for _, b := range n.below[1:] {
		if b.deep() != deep {
			return wrong
		}
	}
	if deep == wrong {
		return wrong
	}
	return deep + 1
}

func (n *node) copied() *node {
	c := &node{items: slices.Clone(n.items)}
	for _, b := range n.below {
		c.below = append(c.below, b.copied())
	}
	return c
}
