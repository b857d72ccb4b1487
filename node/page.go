package node

import (
	"bytes"

	"incipit/api"
	"incipit/pack"
)

// Put answers n's kind and what its page bears, or Check's error.
func Put(n api.Node) (int, []byte, api.Errno) {
	if e := Check(n); e != api.OK {
		return 0, nil, e
	}
	bears := make([]byte, api.Payload)
	if n.Leaf {
		copy(bears, leafBytes(n))
		return api.KindLeaf, bears, api.OK
	}
	copy(bears, innerBytes(n))
	return api.KindInner, bears, api.OK
}

// Get answers the node of that kind whose Put b is; ErrNode, if there is none.
func Get(kind int, b []byte) (api.Node, api.Errno) {
	var n api.Node
	switch kind {
	case api.KindLeaf:
		n = readLeaf(b)
	case api.KindInner:
		n = readInner(b)
	default:
		return api.Node{}, api.ErrKind
	}
	// Put alone says what a page bears: whatever was read of other bytes, fewer or more ones too, they are not what Put makes of it.
	_, bears, e := Put(n)
	if e != api.OK || !bytes.Equal(bears, b) {
		return api.Node{}, api.ErrNode
	}
	return n, api.OK
}

// leafBytes answers the bytes of a leaf that Check has let pass.
func leafBytes(n api.Node) []byte {
	b := []byte{byte(len(n.Pairs))}
	for key, val := range each(n.Pairs) {
		b = putText(putText(b, key), val)
	}
	return b
}

// innerBytes answers the bytes of an inner node that Check has let pass.
func innerBytes(n api.Node) []byte {
	b := putChild([]byte{byte(len(n.Keys))}, n.Kids[0])
	for i, key := range n.Keys {
		b = putChild(putText(b, key), n.Kids[i+1])
	}
	return b
}

// putText puts a key, or a value, behind b: none that may be is too long for a text.
func putText(b, text []byte) []byte {
	b, _ = pack.Text(b, text)
	return b
}

func putChild(b []byte, kid int) []byte { return pack.U16(b, uint16(kid)) }

// readLeaf takes a leaf out of what a page bears; whether it may be is not asked.
func readLeaf(b []byte) api.Node {
	r := pack.Read(b)
	n := api.Node{Leaf: true}
	for range r.U8() {
		key := r.Text(api.MaxKeyIn)
		n.Pairs = append(n.Pairs, api.Pair{Key: key, Val: r.Text(api.MaxVal)})
	}
	return n
}

// readInner takes an inner node out of what a page bears; whether it may be is not asked.
func readInner(b []byte) api.Node {
	r := pack.Read(b)
	count := r.U8()
	n := api.Node{Kids: []int{int(r.U16())}}
	for range count {
		n.Keys = append(n.Keys, r.Text(api.MaxKeyIn))
		n.Kids = append(n.Kids, int(r.U16()))
	}
	return n
}
