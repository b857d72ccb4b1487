package node_test

import (
	"bytes"
	"fmt"
	"math"
	"slices"

	"incipit/api"
)

// The nodes, keys, values, places and children that the calls are asked with.

// leafOf is a leaf of keys and values that take turns.
func leafOf(texts ...string) api.Node {
	n := api.Node{Leaf: true}
	for i := 0; i < len(texts); i += 2 {
		n.Pairs = append(n.Pairs, api.Pair{Key: []byte(texts[i]), Val: []byte(texts[i+1])})
	}
	return n
}

// innerOf is an inner node of these keys, with children from first on.
func innerOf(first int, keys ...string) api.Node {
	n := api.Node{Kids: []int{first}}
	for i, key := range keys {
		n.Keys, n.Kids = append(n.Keys, []byte(key)), append(n.Kids, first+i+1)
	}
	return n
}

// key is the i-th of rising keys of so many bytes, up to 256 of one byte.
func key(i, length int) []byte {
	b := bytes.Repeat([]byte{'x'}, length)
	if length == 1 {
		b[0] = byte(i)
	} else {
		b[0], b[1] = byte(i/256), byte(i%256)
	}
	return b
}

// leafWith is a leaf of so many pairs, with keys and values of so many bytes.
func leafWith(count, keyBytes, valBytes int) api.Node {
	n := api.Node{Leaf: true}
	for i := range count {
		n.Pairs = append(n.Pairs, api.Pair{Key: key(i, keyBytes), Val: bytes.Repeat([]byte{byte(i)}, valBytes)})
	}
	return n
}

// innerWith is an inner node of so many keys of so many bytes.
func innerWith(count, keyBytes int) api.Node {
	n := api.Node{Kids: []int{2}}
	for i := range count {
		n.Keys, n.Kids = append(n.Keys, key(i, keyBytes)), append(n.Kids, 3+i)
	}
	return n
}

// cuts are numbers from least to most that come to total, as few as may be.
func cuts(total, least, most int) []int {
	var l []int
	for total > 0 {
		take := min(most, total)
		if rest := total - take; rest > 0 && rest < least {
			take -= least
		}
		l = append(l, take)
		total -= take
	}
	return l
}

// leafOfSize is a leaf of just so many bytes.
func leafOfSize(size int) api.Node {
	n := api.Node{Leaf: true}
	for i, part := range cuts(size-1, 4, 51) {
		keyBytes := min(part-2, 25)
		n.Pairs = append(n.Pairs, api.Pair{Key: key(i, keyBytes), Val: bytes.Repeat([]byte{7}, part-2-keyBytes)})
	}
	return n
}

// innerOfSize is an inner node of just so many bytes.
func innerOfSize(size int) api.Node {
	n := api.Node{Kids: []int{1999}}
	for i, part := range cuts(size-3, 5, 28) {
		n.Keys, n.Kids = append(n.Keys, key(i, part-3)), append(n.Kids, 2000+i)
	}
	return n
}

// named is a node, and what it is.
type named struct {
	what string
	n    api.Node
}

// goodNodes are nodes that may be, whether they fit or not.
func goodNodes() []named {
	long, longest := string(key(5, 25)), string(bytes.Repeat([]byte{255}, 25))
	l := []named{
		{"the empty leaf", api.Node{Leaf: true}},
		{"a leaf with empty lists", api.Node{Leaf: true, Pairs: []api.Pair{}, Keys: [][]byte{}, Kids: []int{}}},
		{"a leaf of one pair", leafOf("a", "7")},
		{"a leaf with a nil value", api.Node{Leaf: true, Pairs: []api.Pair{{Key: []byte("a")}}}},
		{"the chapter's leaf", leafOf("a", "\x07", "b", "")},
		{"a leaf of beginnings", leafOf("\x00", "", "\x00\x00", "1", "a", "22", "a\x00", "", "aa", "3", "ab", "")},
		{"a leaf of bytes below and above", leafOf("\x00", "a", "\x7f", "b", "\x80", "c", "\xff", "d", "\xff\xff", "e")},
		{"a leaf of the longest keys", leafOf(long, "", longest, "z")},
		{"a leaf of the longest values", leafOf("a", longest[:24], "b", longest[:24])},
		{"a leaf of three alike", leafWith(3, 2, 2)},
		{"the chapter's inner node", innerOf(5, "b")},
		{"an inner node of three keys", innerOf(900, "b", "d", "f")},
		{"an inner node of beginnings", innerOf(300, "\x00", "\x00\x00", "a", "a\x00", "aa", "b")},
		{"an inner node of the longest keys", innerOf(2, long, longest)},
		{"an inner node with a child many times", api.Node{Keys: [][]byte{{1}, {2}}, Kids: []int{9, 9, 9}}},
		{"the lowest and the highest children", api.Node{Keys: [][]byte{{1}, {2}, {3}}, Kids: []int{2, 2047, 255, 256}}},
		{"an inner node with empty pairs", api.Node{Pairs: []api.Pair{}, Keys: [][]byte{{255}}, Kids: []int{1024, 3}}},
	}
	for _, size := range []int{60, 239, 240, 241, 242, 300, 480} {
		l = append(l, named{fmt.Sprint("a leaf of bytes: ", size), leafOfSize(size)})
		l = append(l, named{fmt.Sprint("an inner node of bytes: ", size), innerOfSize(size)})
	}
	for _, count := range []int{2, 4, 5, 78, 79, 80, 81, 254, 255} {
		l = append(l, named{fmt.Sprint("a leaf of pairs: ", count), leafWith(count, 1, 0)})
		l = append(l, named{fmt.Sprint("an inner node of keys: ", count), innerWith(count, 1)})
	}
	return append(l,
		named{"the greatest leaf", leafWith(255, 25, 24)},
		named{"the greatest inner node", innerWith(255, 25)},
	)
}

// badNodes are nodes that may not be.
func badNodes() []named {
	long := string(key(3, 26))
	pairs := []api.Pair{{Key: []byte("a"), Val: []byte("1")}}
	l := []named{
		{"the zero node", api.Node{}},
		{"a leaf with a key", api.Node{Leaf: true, Keys: [][]byte{[]byte("a")}}},
		{"a leaf with a child", api.Node{Leaf: true, Kids: []int{5}}},
		{"a leaf of pairs with an inner node's lists", api.Node{Leaf: true, Pairs: pairs, Keys: [][]byte{{1}}, Kids: []int{5, 6}}},
		{"a leaf with an empty key beside", api.Node{Leaf: true, Pairs: pairs, Keys: [][]byte{nil}}},
		{"a leaf with an empty key", leafOf("", "1")},
		{"a leaf with an empty key ahead", leafOf("", "", "a", "")},
		{"a leaf with an empty key behind", leafOf("a", "", "", "")},
		{"a leaf with a nil key", api.Node{Leaf: true, Pairs: []api.Pair{{}}}},
		{"a leaf with a long key", leafOf(long, "")},
		{"a leaf with a long key behind", leafOf("\x00", "", long, "")},
		{"a leaf with a very long key", leafOf(string(make([]byte, 256+5)), "")},
		{"a leaf with a long value", leafOf("a", string(make([]byte, 25)))},
		{"a leaf with a long value behind", leafOf("a", "", "b", string(make([]byte, 25)))},
		{"a leaf with a very long value", leafOf("a", string(make([]byte, 256)))},
		{"a leaf with a key twice", leafOf("a", "", "b", "1", "b", "2")},
		{"a leaf with the first key twice", leafOf("a", "", "a", "")},
		{"a leaf that falls", leafOf("b", "", "a", "")},
		{"a leaf that falls at its end", leafOf("b", "", "c", "", "d", "", "cc", "")},
		{"a leaf with a beginning behind", leafOf("ab", "", "a", "")},
		{"a leaf that is not in the order of bytes", leafOf("\x80", "", "a", "")},
		{"a leaf in the order of lengths", leafOf("b", "", "aa", "")},
		{"a leaf of 256 pairs", leafWith(256, 1, 0)},
		{"a leaf of 256 great pairs", leafWith(256, 25, 24)},
		{"a leaf of 511 pairs", leafWith(511, 2, 0)},
		{"a child alone", api.Node{Kids: []int{5}}},
		{"a key alone", api.Node{Keys: [][]byte{{1}}}},
		{"pairs in an inner node's place", api.Node{Pairs: pairs}},
		{"an inner node with a pair", api.Node{Pairs: pairs, Keys: [][]byte{{1}}, Kids: []int{5, 6}}},
		{"an inner node with an empty pair", api.Node{Pairs: []api.Pair{{}}, Keys: [][]byte{{1}}, Kids: []int{5, 6}}},
		{"an inner node with a child too few", api.Node{Keys: [][]byte{{1}, {2}}, Kids: []int{5, 6}}},
		{"an inner node with a child too many", api.Node{Keys: [][]byte{{1}, {2}}, Kids: []int{5, 6, 7, 8}}},
		{"an inner node with an empty key", innerOf(5, "")},
		{"an inner node with an empty key behind", innerOf(5, "a", "")},
		{"an inner node with a long key", innerOf(5, long)},
		{"an inner node with a long key behind", innerOf(5, "\x00", long)},
		{"an inner node with a very long key", innerOf(5, string(make([]byte, 256+5)))},
		{"an inner node with a key twice", innerOf(5, "a", "b", "b")},
		{"an inner node that falls", innerOf(5, "b", "a")},
		{"an inner node that falls at its end", innerOf(5, "b", "c", "d", "cc")},
		{"an inner node with a beginning behind", innerOf(5, "ab", "a")},
		{"an inner node of 256 keys", innerWith(256, 1)},
		{"an inner node of 256 long keys", innerWith(256, 25)},
		{"an inner node of 511 keys", innerWith(511, 2)},
	}
	for _, kid := range noKids {
		for place := range 3 {
			n := innerOf(5, "a", "b")
			n.Kids[place] = kid
			l = append(l, named{fmt.Sprint("the child ", kid, " at ", place), n})
		}
	}
	return l
}

// allNodes are good ones and bad ones.
func allNodes() []named { return append(goodNodes(), badNodes()...) }

// noKids are no children.
var noKids = []int{math.MinInt, -1 << 32, -1<<32 + 5, -65536 + 5, -2048, -5, -1, 0, 1, 2048, 2049, 4096, 65535, 65536, 65536 + 5, 1 << 31, 1<<32 + 5, math.MaxInt}

// farPlaces are places that no node has.
var farPlaces = []int{math.MinInt, math.MinInt + 1, -1 << 32, -256, -2, -1, 257, 258, 1 << 16, 1<<16 + 1, 1 << 31, 1 << 32, 1<<32 + 1, math.MaxInt - 1, math.MaxInt}

// someTexts are keys, and what is none.
func someTexts() [][]byte {
	l := [][]byte{nil, {}, {0}, {0, 0}, {0, 255}, {1}, {127}, {128}, {254}, {255}, {255, 255}, []byte("a"), []byte("a\x00"), []byte("aa"), []byte("ab"), []byte("azz"), []byte("b"), []byte("bb"), []byte("c"), []byte("z")}
	for _, n := range []int{24, 25, 26, 27, 255, 256, 257, 256 + 5, 4096} {
		l = append(l, key(1, n), bytes.Repeat([]byte{255}, n), bytes.Repeat([]byte("a"), n))
	}
	return l
}

// askedOf are keys that a node is asked for: someTexts, its own ones, and what stands next to them.
func askedOf(n api.Node) [][]byte {
	l := someTexts()
	for _, own := range keysOf(n) {
		l = append(l, own, append(bytes.Clone(own), 0), own[:max(len(own)-1, 0)])
		if len(own) > 0 {
			less, more := bytes.Clone(own), bytes.Clone(own)
			less[len(own)-1]--
			more[len(own)-1]++
			l = append(l, less, more)
		}
	}
	return l
}

// draws is a rule by which nodes are drawn, always the same of a seed.
type draws uint32

// below draws a number from 0 on, below n.
func (r *draws) below(n int) int {
	*r = *r*1664525 + 1013904223
	return int(uint32(*r)>>8) % n
}

// text draws bytes that are often another text's beginning.
func (r *draws) text(least, most int) []byte {
	b := make([]byte, least+r.below(most-least+1))
	for i := range b {
		b[i] = []byte{0, 1, 'a', 'b', 'c', 200, 255}[r.below(7)]
	}
	return b
}

// lengths draws how long a node's keys are at least and at most, and its values at most: there are short, long and mixed ones.
func (r *draws) lengths() (int, int, int) {
	switch r.below(4) {
	case 0:
		return 1, 3, 2
	case 1:
		return 20, 25, 24
	case 2:
		return 1, 25, 3
	}
	return 1, 25, 24
}

// keys draws at most so many keys, rising.
func (r *draws) keys(count, least, most int) [][]byte {
	var l [][]byte
	for range count {
		l = append(l, r.text(least, most))
	}
	slices.SortFunc(l, bytes.Compare)
	return slices.CompactFunc(l, bytes.Equal)
}

// leaf draws a leaf of at most so many pairs.
func (r *draws) leaf(most int) api.Node {
	least, longest, val := r.lengths()
	n := api.Node{Leaf: true}
	for _, k := range r.keys(r.below(most+1), least, longest) {
		n.Pairs = append(n.Pairs, api.Pair{Key: k, Val: r.text(0, val)})
	}
	return n
}

// inner draws an inner node of at most so many keys.
func (r *draws) inner(most int) api.Node {
	least, longest, _ := r.lengths()
	n := api.Node{Keys: r.keys(1+r.below(most), least, longest), Kids: []int{r.kid()}}
	for range n.Keys {
		n.Kids = append(n.Kids, r.kid())
	}
	return n
}

func (r *draws) kid() int { return 2 + r.below(2046) }

// node draws a leaf, or an inner node, that may be.
func (r *draws) node(most int) api.Node {
	if r.below(2) == 0 {
		return r.leaf(most)
	}
	return r.inner(most)
}

// fitting draws a node that fits.
func (r *draws) fitting() api.Node {
	for {
		if n := r.node(1 + r.below(60)); plainCheck(n) == api.OK {
			return n
		}
	}
}
