package fold

import (
	"iter"
	"slices"
	"strings"

	"incipit/api"
)

// Check answers ErrFold, if the table may not be.
func Check(t []api.Fold) api.Errno {
	// All ranges are asked about alone first: ahead of that nothing may be made of their numbers.
	if len(t) > api.MaxFolds || slices.ContainsFunc(t, isNoRange) || !isRising(t) || foldsTwice(t) {
		return api.ErrFold
	}
	return api.OK
}

// Rune answers what the table folds r to: r itself, if no range folds it, or the table may not be.
func Rune(t []api.Fold, r rune) rune { return foldedBy(usable(t), r) }

// Text answers the bytes' runes, each folded, as a text.
func Text(t []api.Fold, b []byte) string {
	own := usable(t)
	var text strings.Builder
	text.Grow(len(b))
	for _, r := range Runes(b) {
		text.WriteRune(foldedBy(own, r))
	}
	return text.String()
}

// Plain answers the table of Latin, Greek and Cyrillic capitals.
func Plain() []api.Fold {
	return []api.Fold{
		{From: 'A', To: 'a', N: 'Z' - 'A' + 1},
		{From: 0x00C0, To: 0x00E0, N: 0x00D6 - 0x00C0 + 1},
		{From: 0x00D8, To: 0x00F8, N: 0x00DE - 0x00D8 + 1},
		{From: 0x0391, To: 0x03B1, N: 0x03A1 - 0x0391 + 1},
		{From: 0x03A3, To: 0x03C3, N: 0x03A9 - 0x03A3 + 1},
		{From: 0x0410, To: 0x0430, N: 0x042F - 0x0410 + 1},
	}
}

// Letters tells each rune that the table folds, and what it is folded to, rising: its ranges rise, where it may be.
func Letters(t []api.Fold) iter.Seq2[rune, rune] {
	// The table's owner may change it ahead of, and amid, the ranging.
	own := slices.Clone(usable(t))
	return func(yield func(rune, rune) bool) {
	table:
		for _, f := range own {
			for from, to := range foldsOf(f) {
				if !yield(from, to) {
					break table
				}
			}
		}
	}
}

// usable answers the table, or the empty one, which folds nothing, in place of one that may not be.
func usable(t []api.Fold) []api.Fold {
	if Check(t) != api.OK {
		return nil
	}
	return t
}

// foldedBy is Rune by a table that may be.
func foldedBy(t []api.Fold, r rune) rune {
	for _, f := range t {
		if fromRow(f).has(r) {
			return f.To + (r - f.From)
		}
	}
	return r
}

// foldsOf tells what a range folds, and to what, rising.
func foldsOf(f api.Fold) iter.Seq2[rune, rune] {
	return func(yield func(rune, rune) bool) {
		for k := range rune(f.N) {
			if !yield(f.From+k, f.To+k) {
				return
			}
		}
	}
}

// isNoRange answers whether f may be in no table.
func isNoRange(f api.Fold) bool {
	return f.N < 1 || f.N > api.MaxRange || !fromRow(f).isLetters() || !toRow(f).isLetters()
}

// isRising answers whether each range begins behind the last rune that the one ahead of it folds.
func isRising(t []api.Fold) bool {
	last := int64(-1)
	for _, f := range t {
		from := fromRow(f)
		if from.first <= last {
			return false
		}
		last = from.last
	}
	return true
}

// foldsTwice answers whether a rune that one is folded to is folded itself.
func foldsTwice(t []api.Fold) bool {
	for _, f := range t {
		for _, g := range t {
			if toRow(f).meets(fromRow(g)) {
				return true
			}
		}
	}
	return false
}

// fromRow answers the runes that f folds.
func fromRow(f api.Fold) row { return rowOf(f.From, f.N) }

// toRow answers the runes that f folds to.
func toRow(f api.Fold) row { return rowOf(f.To, f.N) }

// rowOf answers the n runes from the first one on.
func rowOf(first rune, n int) row { return row{int64(first), int64(first) + int64(n) - 1} }
