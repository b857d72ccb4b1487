package cursor

import (
	"bytes"
	"iter"
	"slices"

	"incipit/api"
	"incipit/pack"
)

// Gather answers the first most pairs that all tells, and asks it for no more.
func Gather(all iter.Seq2[[]byte, []byte], most int) (pairs []api.Pair) {
	if all == nil || most < 1 {
		return nil
	}
	// all is anybody's function: it may panic, or go on though no more is asked for, at which the language panics. What it told ahead of that counts.
	defer func() { _ = recover() }()
	for key, val := range all {
		pairs = append(pairs, owned(api.Pair{Key: key, Val: val}))
		if len(pairs) == most {
			break
		}
	}
	return pairs
}

// Merge tells the pairs of a and b, rising; of a key that both have a's.
func Merge(a, b []api.Pair) iter.Seq2[[]byte, []byte] {
	// Their owner may change them ahead of, and amid, the ranging.
	pairs := ownedList(merged(a, b))
	return func(yield func([]byte, []byte) bool) {
		for _, p := range pairs {
			// Whoever ranges may change what is told, and range again.
			p = owned(p)
			if !yield(p.Key, p.Val) {
				return
			}
		}
	}
}

// merged answers what Merge tells, in its owner's memory.
func merged(a, b []api.Pair) []api.Pair {
	var pairs []api.Pair
	for len(a) > 0 && len(b) > 0 {
		switch order := pack.Compare(a[0].Key, b[0].Key); {
		case order < 0:
			pairs, a = append(pairs, a[0]), a[1:]
		case order > 0:
			pairs, b = append(pairs, b[0]), b[1:]
		default:
			pairs, a, b = append(pairs, a[0]), a[1:], b[1:]
		}
	}
	return slices.Concat(pairs, a, b)
}

// owned answers a pair in memory of its own.
func owned(p api.Pair) api.Pair {
	return api.Pair{Key: bytes.Clone(p.Key), Val: bytes.Clone(p.Val)}
}

func ownedList(l []api.Pair) []api.Pair {
	var pairs []api.Pair
	for _, p := range l {
		pairs = append(pairs, owned(p))
	}
	return pairs
}
