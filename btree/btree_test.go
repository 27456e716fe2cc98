package btree

import (
	"fmt"
	"math"
	"math/rand"
	"slices"
	"strings"
	"testing"

	"jobcase/api"
)

// model: the same as a tree, by a map that is sorted whenever it is asked.
type model map[string]api.Entry

func (m model) after(key string, many int) []api.Entry {
	var keys []string
	for k := range m {
		if k > key {
			keys = append(keys, k)
		}
	}
	slices.Sort(keys)
	var l []api.Entry
	for i, k := range keys {
		if i < many {
			l = append(l, m[k])
		}
	}
	return l
}

// shape of a node: its depth, and all of its keys in order; without Deep and walk, which it is to try.
func shape(t *testing.T, n *node, root bool) (deep int, keys []string) {
	t.Helper()
	if len(n.items) > 3 || len(n.items) == 0 && !(root && len(n.below) == 0) {
		t.Fatalf("a node has %d entries", len(n.items))
	}
	if len(n.below) == 0 {
		for _, it := range n.items {
			keys = append(keys, it.key)
		}
		return 1, keys
	}
	if len(n.below) != len(n.items)+1 {
		t.Fatalf("a node of %d entries has %d nodes below it", len(n.items), len(n.below))
	}
	for i, b := range n.below {
		d, l := shape(t, b, false)
		if i > 0 && d != deep {
			t.Fatalf("nodes of the depths %d and %d are below one", deep, d)
		}
		deep = d
		keys = append(keys, l...)
		if i < len(n.items) {
			keys = append(keys, n.items[i].key)
		}
	}
	return deep + 1, keys
}

func holds(t *testing.T, tree *Tree, m model) {
	t.Helper()
	deep, keys := shape(t, tree.root, true)
	if len(keys) != len(m) {
		t.Fatalf("%d keys are there, want %d", len(keys), len(m))
	}
	for i, k := range keys {
		if i > 0 && keys[i-1] >= k {
			t.Fatalf("the key %q is behind %q", k, keys[i-1])
		}
		if e, is := tree.Get(k); !is || e != m[k] {
			t.Fatalf("Get(%q) = %v, %v, want %v", k, e, is, m[k])
		}
	}
	if got := tree.Deep(); got != deep {
		t.Fatalf("Deep() = %d, want %d", got, deep)
	}
	if got := tree.Many(); got != len(m) {
		t.Fatalf("Many() = %d, want %d", got, len(m))
	}
	if got, want := tree.After("", math.MaxInt), m.after("", math.MaxInt); !slices.Equal(got, want) {
		t.Fatalf("After all: %v, want %v", got, want)
	}
}

func entry(k string, n int) api.Entry { return api.Entry{Name: "name " + k, Node: n} }

func full(keys ...string) (*Tree, model) {
	tree, m := New(), model{}
	for i, k := range keys {
		tree.Put(k, entry(k, i))
		m[k] = entry(k, i)
	}
	return tree, m
}

func TestE1Empty(t *testing.T) {
	tree := New()
	holds(t, tree, model{})
	if got := tree.Deep(); got != 1 {
		t.Errorf("an empty tree has the depth %d", got)
	}
	for _, k := range []string{"", "a", "\x00"} {
		if e, is := tree.Get(k); is || e != (api.Entry{}) {
			t.Errorf("Get(%q) = %v, %v", k, e, is)
		}
		if tree.Drop(k) {
			t.Errorf("Drop(%q) of nothing", k)
		}
		if l := tree.After(k, 9); len(l) != 0 {
			t.Errorf("After(%q) = %v", k, l)
		}
	}
	holds(t, tree, model{})
}

func TestE1TwoTrees(t *testing.T) {
	a, b := New(), New()
	a.Put("k", entry("k", 1))
	holds(t, a, model{"k": entry("k", 1)})
	holds(t, b, model{})
}

func TestE1PutInstead(t *testing.T) {
	keys := strings.Split("hdlbfjnacegikmo", "")
	tree, m := full(keys...)
	for i, k := range keys {
		m[k] = entry("other", 100+i)
		tree.Put(k, m[k])
		holds(t, tree, m)
	}
}

func TestE1Get(t *testing.T) {
	tree, _ := full("b", "d", "f", "h", "j", "l", "n")
	for _, k := range []string{"", "a", "c", "e", "g", "i", "k", "m", "o", "bb", "B", "d\x00"} {
		if e, is := tree.Get(k); is || e != (api.Entry{}) {
			t.Errorf("Get(%q) = %v, %v", k, e, is)
		}
	}
	tree.Put("zero", api.Entry{})
	if e, is := tree.Get("zero"); !is || e != (api.Entry{}) {
		t.Errorf("Get of an entry without anything = %v, %v", e, is)
	}
}

func TestE1Drop(t *testing.T) {
	keys := strings.Split("abcdefghijklmnopqrstuvwxyz", "")
	tree, m := full(keys...)
	for _, k := range []string{"A", "aa", "\x00", "zz", "m\x00"} {
		if tree.Drop(k) {
			t.Errorf("Drop(%q) of none", k)
		}
		holds(t, tree, m)
	}
	for _, k := range strings.Split("mazbyncxdowepvfgqurthsiljk", "") {
		if !tree.Drop(k) {
			t.Errorf("Drop(%q) found none", k)
		}
		delete(m, k)
		if e, is := tree.Get(k); is || e != (api.Entry{}) {
			t.Errorf("Get(%q) behind its end = %v, %v", k, e, is)
		}
		if tree.Drop(k) {
			t.Errorf("Drop(%q) twice", k)
		}
		holds(t, tree, m)
	}
}

// TestE1EmptyKey: nothing is said of an entry of the empty key, but that no call panics, and what else is there stays.
func TestE1EmptyKey(t *testing.T) {
	for _, keys := range [][]string{nil, {"a"}, {"a", "b", "c", "d", "e", "f", "g"}} {
		tree, m := full(keys...)
		tree.Put("", entry("", 7))
		holds(t, tree, m)
		if e, is := tree.Get(""); is || e != (api.Entry{}) {
			t.Errorf("Get of the empty key = %v, %v", e, is)
		}
		if tree.Drop("") {
			t.Error("Drop of the empty key")
		}
		holds(t, tree, m)
	}
}

func TestE1OddKeysAndEntries(t *testing.T) {
	keys := []string{"\x00", "\x00\x00", "\x01", "a\x00", "a", "\xff", "\xff\xff", "\xc3", "\u00e4", "\u03c3", strings.Repeat("k", 3000), strings.Repeat("k", 3001)}
	tree, m := full(keys...)
	for _, n := range []int{math.MinInt, -1, 0, math.MaxInt} {
		m["n"] = api.Entry{Name: "\xff", Node: n}
		tree.Put("n", m["n"])
		holds(t, tree, m)
	}
}

// orders of some things, each one.
func orders(l []string, see func([]string)) {
	var from func(int)
	from = func(i int) {
		if i == len(l) {
			see(l)
		}
		for j := i; j < len(l); j++ {
			l[i], l[j] = l[j], l[i]
			from(i + 1)
			l[i], l[j] = l[j], l[i]
		}
	}
	from(0)
}

func TestE2EachOrder(t *testing.T) {
	orders(strings.Split("abcdefg", ""), func(l []string) {
		tree, m := full(l...)
		holds(t, tree, m)
		for _, k := range l[1:] {
			one, rest := tree.Copy(), same(m)
			if !one.Drop(k) {
				t.Fatalf("Drop(%q) found none, put as %v", k, l)
			}
			delete(rest, k)
			holds(t, one, rest)
		}
	})
}

func TestE2EachOrderDown(t *testing.T) {
	for _, put := range []string{"abcdefgh", "hgfedcba", "dbfacegh", "ahbgcfde"} {
		orders(strings.Split("abcdefgh", ""), func(l []string) {
			tree, m := full(strings.Split(put, "")...)
			for _, k := range l {
				tree.Drop(k)
				delete(m, k)
				if deep, keys := shape(t, tree.root, true); deep != tree.Deep() || len(keys) != len(m) {
					t.Fatalf("put as %s, dropped as %v: depth %d, not %d, keys %v", put, l, tree.Deep(), deep, keys)
				}
			}
		})
	}
}

func same(m model) model {
	c := model{}
	for k, e := range m {
		c[k] = e
	}
	return c
}

func TestE1E2Drawn(t *testing.T) {
	for seed := range int64(60) {
		d := rand.New(rand.NewSource(seed))
		tree, m := New(), model{}
		most := 2 + d.Intn(90)
		for range 400 {
			k := fmt.Sprint(d.Intn(most))
			many := d.Intn(12) - 2
			switch d.Intn(5) {
			case 0, 1:
				e := entry(k, d.Intn(999))
				tree.Put(k, e)
				m[k] = e
			case 2, 3:
				_, was := m[k]
				if got := tree.Drop(k); got != was {
					t.Fatalf("Drop(%q) = %v", k, got)
				}
				delete(m, k)
			default:
				want, was := m[k]
				if got, is := tree.Get(k); got != want || is != was {
					t.Fatalf("Get(%q) = %v, %v, want %v, %v", k, got, is, want, was)
				}
			}
			if got, want := tree.After(k, many), m.after(k, many); !slices.Equal(got, want) {
				t.Fatalf("After(%q, %d) = %v, want %v", k, many, got, want)
			}
			holds(t, tree, m)
		}
	}
}

func TestE1CopyIsApart(t *testing.T) {
	for seed := range int64(40) {
		d := rand.New(rand.NewSource(seed))
		trees, models := []*Tree{New()}, []model{{}}
		for range 300 {
			i := d.Intn(len(trees))
			k := string(rune('a' + d.Intn(26)))
			switch c := d.Intn(8); {
			case c < 4:
				models[i][k] = entry(k, d.Intn(999))
				trees[i].Put(k, models[i][k])
			case c < 7:
				trees[i].Drop(k)
				delete(models[i], k)
			case len(trees) < 5:
				trees, models = append(trees, trees[i].Copy()), append(models, same(models[i]))
			default:
				j := d.Intn(len(trees))
				trees[j], models[j] = trees[i].Copy(), same(models[i])
			}
			for j := range trees {
				holds(t, trees[j], models[j])
			}
		}
	}
}

func TestE2After(t *testing.T) {
	tree, m := full("f", "b", "h", "d", "n", "j", "l", "r", "p")
	all := m.after("", 99)
	for _, c := range []struct {
		key  string
		many int
		want []api.Entry
	}{
		{"", math.MinInt, nil}, {"", -1, nil}, {"", 0, nil}, {"", 1, all[:1]}, {"", 8, all[:8]}, {"", 9, all}, {"", 10, all}, {"", math.MaxInt, all},
		{"a", 9, all}, {"b", 9, all[1:]}, {"b\x00", 1, all[1:2]}, {"c", 2, all[1:3]}, {"d", 2, all[2:4]},
		{"h", 3, all[4:7]}, {"i", 3, all[4:7]}, {"p", 9, all[8:]}, {"q", 9, all[8:]}, {"q", 0, nil}, {"r", 9, nil}, {"r\x00", 9, nil}, {"\xff", 9, nil},
	} {
		if got := tree.After(c.key, c.many); !slices.Equal(got, c.want) {
			t.Errorf("After(%q, %d) = %v, want %v", c.key, c.many, got, c.want)
		}
	}
	holds(t, tree, m)
}

// TestE2AfterBitByBit: who goes on behind the last key that was told is told each entry just once.
func TestE2AfterBitByBit(t *testing.T) {
	tree := New()
	for i := range 50 {
		k := string([]byte{byte('A' + i*37%50)})
		tree.Put(k, api.Entry{Name: k, Node: i})
	}
	for many := 1; many < 53; many++ {
		var got []api.Entry
		at := ""
		for len(got) <= 50 { // what is told twice would be told for ever
			l := tree.After(at, many)
			if len(l) == 0 {
				break
			}
			got = append(got, l...)
			at = l[len(l)-1].Name
		}
		if want := tree.After("", 50); len(got) != 50 || !slices.Equal(got, want) {
			t.Errorf("by %d: %v, want %v", many, got, want)
		}
	}
}

// TestZ2Fresh: what After answers is the caller's.
func TestZ2Fresh(t *testing.T) {
	tree, m := full("a", "b", "c", "d", "e")
	l := tree.After("", 9)
	other := tree.After("", 9)
	for i := range l {
		l[i] = api.Entry{Name: "spoilt", Node: -1}
	}
	_ = append(l[:0], make([]api.Entry, cap(l))...)
	holds(t, tree, m)
	if !slices.Equal(other, m.after("", 9)) {
		t.Errorf("another answer became %v", other)
	}
}

// TestE2Deep: a tree of nodes of one to three is no deeper, and no flatter, than its entries allow.
func TestE2Deep(t *testing.T) {
	for _, put := range []func(i int) int{
		func(i int) int { return i },
		func(i int) int { return 5000 - i },
		func(i int) int { return i * 7919 % 5003 },
	} {
		tree := New()
		for i := 1; i <= 5000; i++ {
			tree.Put(fmt.Sprintf("%05d", put(i)), api.Entry{Node: i})
			if i < 300 || i%500 == 0 {
				depthFits(t, tree.Deep(), i)
			}
		}
		shape(t, tree.root, true)
		for i := 5000; i > 0; i-- {
			if !tree.Drop(fmt.Sprintf("%05d", put(i*7%5001))) {
				t.Fatalf("one of the %d entries was not found", i)
			}
			if i < 300 || i%500 == 0 {
				depthFits(t, tree.Deep(), i-1)
			}
		}
		if tree.Deep() != 1 || tree.Many() != 0 {
			t.Errorf("depth %d, and %d entries, when all are gone", tree.Deep(), tree.Many())
		}
	}
}

func depthFits(t *testing.T, deep, many int) {
	t.Helper()
	least, most := 1<<deep-1, 1<<(2*deep)-1 // entries, if each node has one, or three
	if many > 0 && (many < least || many > most) || many == 0 && deep != 1 {
		t.Fatalf("%d entries have the depth %d", many, deep)
	}
}

// TestDeepOfNoTree: Deep tells whether the nodes are as they should be.
func TestDeepOfNoTree(t *testing.T) {
	one := func(keys ...string) *node {
		n := &node{}
		for _, k := range keys {
			n.items = append(n.items, item{key: k})
		}
		return n
	}
	up := func(n *node, below ...*node) *node {
		n.below = below
		return n
	}
	for _, c := range []struct {
		what string
		root *node
		want int
	}{
		{"a leaf", one("a"), 1},
		{"a leaf of three", one("a", "b", "c"), 1},
		{"two leaves", up(one("b"), one("a"), one("c")), 2},
		{"a leaf of four", one("a", "b", "c", "d"), wrong},
		{"none below", up(one("b"), one("a"), one()), wrong},
		{"none below, ahead", up(one("b"), one(), one("c")), wrong},
		{"none below, everywhere", up(one("b"), one(), one()), wrong},
		{"none above", up(one(), one("a")), wrong},
		{"too few below", up(one("b", "d"), one("a"), one("c")), wrong},
		{"too many below", up(one("b"), one("a"), one("c"), one("d")), wrong},
		{"two depths", up(one("b"), one("a"), up(one("d"), one("c"), one("e"))), wrong},
	} {
		if got := (&Tree{root: c.root}).Deep(); got != c.want {
			t.Errorf("%s: Deep() = %d, want %d", c.what, got, c.want)
		}
	}
}
