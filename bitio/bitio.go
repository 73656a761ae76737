// Package bitio is layer 1: bits of bytes, the lowest first, read and written.
// See shared/doc/01-bitio.md.
package bitio

import (
	"math/bits"
	"slices"

	"duffel/api"
)

// widest is how many bits a number has at most that is read or written at once.
const widest = api.MaxBits

// Reader reads bits.
type Reader struct {
	all  []byte
	at   int  // how many bits were read; those that Align goes over count, too
	made bool // a Reader that Open did not make has an error instead of bits
	err  api.Errno
}

// Open answers a reader at the first bit.
func Open(b []byte) *Reader {
	return &Reader{all: slices.Clone(b), made: true}
}

// Bits reads a number.
func (r *Reader) Bits(n int) uint32 {
	if n < 0 || n > widest {
		r.fail(api.ErrArg)
		return 0
	}
	x, there := r.Look(n)
	if there < n {
		r.fail(api.ErrShort)
		return 0
	}
	r.skip(n)
	return x
}

// Bit reads a bit.
func (r *Reader) Bit() uint32 { return r.Bits(1) }

// Look answers the next bits, and how many there are.
func (r *Reader) Look(n int) (uint32, int) {
	if n < 0 || n > widest || r.Err() != api.OK {
		return 0, 0
	}
	x := r.window(r.at/8) >> (r.at % 8)
	return uint32(x & (1<<n - 1)), min(n, r.Left())
}

// Align goes on to the next byte.
func (r *Reader) Align() {
	// All bits together are whole bytes: those that are left tell how far it is to the next one.
	r.skip(r.Left() % 8)
}

// Bytes reads bytes.
func (r *Reader) Bytes(n int) []byte {
	switch left := r.Left(); {
	case n < 0:
		r.fail(api.ErrArg)
	case left%8 != 0:
		r.fail(api.ErrForm)
	case n > left/8:
		r.fail(api.ErrShort)
	}
	if r.Err() != api.OK {
		return nil
	}
	from := r.at / 8
	r.skip(8 * n)
	return slices.Clone(r.all[from : from+n])
}

// Left answers how many bits are left.
func (r *Reader) Left() int {
	if r.Err() != api.OK {
		return 0
	}
	return 8*len(r.all) - r.at
}

// Read answers how many bits were read.
func (r *Reader) Read() int {
	if r == nil {
		return 0
	}
	return r.at
}

// Err answers the first error.
func (r *Reader) Err() api.Errno {
	if r == nil || !r.made {
		return api.ErrNil
	}
	return r.err
}

// fail keeps an error, unless there is one: the first one stays.
func (r *Reader) fail(e api.Errno) {
	if r.Err() == api.OK {
		r.err = e
	}
}

// skip goes on by bits that are left; by none a Reader that is nil may be asked, too.
func (r *Reader) skip(n int) {
	if n > 0 {
		r.at += n
	}
}

// window answers the eight bytes from one on as a number, noughts for those that are not there.
// It is wider than any number that is read, as that may begin amid its first byte.
func (r *Reader) window(from int) uint64 {
	b := r.all[from:]
	if len(b) >= 8 {
		// Written out, as one load is made of it: decoders ask for each word of a code.
		return uint64(b[0]) | uint64(b[1])<<8 | uint64(b[2])<<16 | uint64(b[3])<<24 |
			uint64(b[4])<<32 | uint64(b[5])<<40 | uint64(b[6])<<48 | uint64(b[7])<<56
	}
	x := uint64(0)
	for i, c := range b {
		x |= uint64(c) << (8 * i)
	}
	return x
}

// Writer writes bits. The zero value has none.
type Writer struct {
	whole []byte
	rest  uint64 // the bits behind the whole bytes
	held  int    // how many these are, between calls fewer than 8
}

// New answers a writer without bits.
func New() *Writer { return &Writer{} }

// Put writes a number.
func (w *Writer) Put(x uint32, n int) {
	if w == nil {
		return
	}
	n = clamp(n)
	w.rest |= (uint64(x) & (1<<n - 1)) << w.held
	w.held += n
	for w.held >= 8 {
		w.whole = append(w.whole, byte(w.rest))
		w.rest >>= 8
		w.held -= 8
	}
}

// Align writes bits 0 up to a byte's end.
func (w *Writer) Align() {
	if w != nil && w.held > 0 {
		w.Put(0, 8-w.held)
	}
}

// PutBytes writes bytes.
func (w *Writer) PutBytes(b []byte) {
	if w == nil {
		return
	}
	w.Align()
	w.whole = append(w.whole, b...)
}

// Bytes answers what was written.
func (w *Writer) Bytes() []byte {
	if w == nil {
		return nil
	}
	b := slices.Clone(w.whole)
	if w.held > 0 {
		b = append(b, byte(w.rest))
	}
	return b
}

// Len answers how many bits were written.
func (w *Writer) Len() int {
	if w == nil {
		return 0
	}
	return 8*len(w.whole) + w.held
}

// Turn answers bits in the other order.
func Turn(x uint32, n int) uint32 {
	return bits.Reverse32(x) >> (widest - clamp(n))
}

// clamp puts a number of bits between 0 and the widest.
func clamp(n int) int { return max(0, min(n, widest)) }
