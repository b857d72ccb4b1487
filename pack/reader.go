package pack

import (
	"bytes"

	"incipit/api"
)

// A short number's fifth byte is its last one, and has but the four bits that are missing to 32.
const (
	fifthByte = 4
	fifthMost = 15
)

// Reader is bytes that are taken one behind the other, up to the first error.
type Reader struct {
	made bool // tells a reader of no bytes from one that no call made
	left []byte
	err  api.Errno
}

// Read answers a reader of b, which it copies: b's owner may change it meanwhile.
func Read(b []byte) *Reader {
	return &Reader{made: true, left: bytes.Clone(b)}
}

// U8 takes a number of one byte.
func (r *Reader) U8() uint8 { return uint8(r.takeNumber(1)) }

// U16 takes a number of two bytes.
func (r *Reader) U16() uint16 { return uint16(r.takeNumber(2)) }

// U32 takes a number of four bytes.
func (r *Reader) U32() uint32 { return uint32(r.takeNumber(4)) }

// U64 takes a number of eight bytes.
func (r *Reader) U64() uint64 { return r.takeNumber(8) }

// Var takes a short number.
func (r *Reader) Var() uint32 {
	if r.Err() != api.OK {
		return 0
	}
	v, n, err := shortNumber(r.left)
	r.left, r.err = r.left[n:], err
	return v
}

// Raw takes the next n bytes.
func (r *Reader) Raw(n int) []byte { return bytes.Clone(r.take(n)) }

// Text takes a text of most bytes at most.
func (r *Reader) Text(most int) []byte {
	if r.Err() != api.OK {
		return nil
	}
	n, err := textLength(r.left, most)
	if err != api.OK {
		r.err = err
		return nil
	}
	return bytes.Clone(r.take(1 + n)[1:])
}

// Left answers how many bytes are left.
func (r *Reader) Left() int {
	if r == nil {
		return 0
	}
	return len(r.left)
}

// Err answers the first error, or OK; ErrMade of a reader that no call made.
func (r *Reader) Err() api.Errno {
	if r == nil || !r.made {
		return api.ErrMade
	}
	return r.err
}

// End answers Err, else ErrMore, if bytes are left; it is no take, so it leaves Err as it is.
func (r *Reader) End() api.Errno {
	if err := r.Err(); err != api.OK {
		return err
	}
	if len(r.left) > 0 {
		return api.ErrMore
	}
	return api.OK
}

// take answers bytes that are still the reader's own: what is handed out must be copied.
func (r *Reader) take(n int) []byte {
	if r.Err() != api.OK {
		return nil
	}
	if n < 0 {
		r.err = api.ErrArg
		return nil
	}
	if n > len(r.left) {
		r.err = api.ErrShort
		return nil
	}
	taken := r.left[:n]
	r.left = r.left[n:]
	return taken
}

func (r *Reader) takeNumber(width int) uint64 {
	var v uint64
	for _, c := range r.take(width) {
		v = v<<8 | uint64(c)
	}
	return v
}

// shortNumber answers the short number that b begins with, and how many bytes it has.
func shortNumber(b []byte) (uint32, int, api.Errno) {
	var v uint32
	n := 0
	err := api.ErrShort // it stands, if b ends ahead of the number's last byte
number:
	for i, c := range b {
		v |= uint32(c&127) << (7 * i)
		switch {
		case i == fifthByte && c > fifthMost, i > 0 && c == 0:
			err = api.ErrVar
			break number
		case c < 128:
			n, err = i+1, api.OK
			break number
		}
	}
	if err != api.OK {
		return 0, 0, err
	}
	return v, n, api.OK
}

// textLength answers how many bytes the text that b begins with has behind its first one.
func textLength(b []byte, most int) (int, api.Errno) {
	switch {
	case most < 0:
		return 0, api.ErrArg
	case len(b) == 0:
		return 0, api.ErrShort
	case int(b[0]) > most:
		return 0, api.ErrLong
	case int(b[0]) > len(b)-1:
		return 0, api.ErrShort
	}
	return int(b[0]), api.OK
}
