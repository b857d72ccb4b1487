package words

import (
	"slices"

	"incipit/api"
	"incipit/fold"
	"incipit/pack"
)

// longestStop is how many bytes a stop word has at most: no letter's form has more than two.
const longestStop = 2 * api.MaxCap

// Check answers ErrConf, if the way may not be.
func Check(c api.Conf) api.Errno {
	if fold.Check(c.Folds) != api.OK || c.Cap < 1 || c.Cap > api.MaxCap || !stopsMayBe(c) {
		return api.ErrConf
	}
	return api.OK
}

// Same answers whether two ways, that may be or not, are the same in all fields.
func Same(a, b api.Conf) bool {
	return a.Cap == b.Cap && slices.Equal(a.Folds, b.Folds) && slices.Equal(a.Stops, b.Stops)
}

// Bytes answers the way's form; ErrLong, if a page cannot bear it.
func Bytes(c api.Conf) ([]byte, api.Errno) {
	if err := Check(c); err != api.OK {
		return nil, err
	}
	b := form(c)
	if len(b) > api.Payload {
		return nil, api.ErrLong
	}
	return b, api.OK
}

// Parse answers the way whose form b is; ErrConf, if there is none.
func Parse(b []byte) (api.Conf, api.Errno) {
	// What a page cannot bear no way's Bytes are, so that of what is parsed Bytes are always b again.
	if len(b) > api.Payload {
		return api.Conf{}, api.ErrConf
	}
	r := pack.Read(b)
	c := api.Conf{Cap: int(r.U8())}
	for range r.U8() {
		from, to, last := r.U16(), r.U16(), r.U8()
		c.Folds = append(c.Folds, api.Fold{From: rune(from), To: rune(to), N: int(last) + 1})
	}
	for range r.U8() {
		c.Stops = append(c.Stops, string(r.Text(longestStop)))
	}
	// Each way that may be has a form of its own, so that b is the form of what was read.
	if r.End() != api.OK || Check(c) != api.OK {
		return api.Conf{}, api.ErrConf
	}
	return c, api.OK
}

// form answers the form of a way that may be: each of its numbers has room in its bytes.
func form(c api.Conf) []byte {
	b := []byte{byte(c.Cap), byte(len(c.Folds))}
	for _, f := range c.Folds {
		b = pack.U16(b, uint16(f.From))
		b = pack.U16(b, uint16(f.To))
		b = append(b, byte(f.N-1))
	}
	b = append(b, byte(len(c.Stops)))
	for _, stop := range c.Stops {
		b = append(b, byte(len(stop)))
		b = append(b, stop...)
	}
	return b
}

// stopsMayBe answers whether the stop words of a way, whose other fields may be, may be.
func stopsMayBe(c api.Conf) bool {
	if len(c.Stops) > api.MaxStops {
		return false
	}
	for i, stop := range c.Stops {
		if i > 0 && stop <= c.Stops[i-1] || !isOwnTerm(c, stop) {
			return false
		}
	}
	return true
}

// isOwnTerm answers whether a text is one word, and its own term: neither cut nor folded.
func isOwnTerm(c api.Conf, text string) bool {
	return text != "" && leadingLetters(text) == text && termOf(c, text) == text
}

// clone answers the same way, in memory of its own.
func clone(c api.Conf) api.Conf {
	c.Folds, c.Stops = slices.Clone(c.Folds), slices.Clone(c.Stops)
	return c
}
