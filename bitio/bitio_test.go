package bitio

import (
	"bytes"
	"math"
	"slices"
	"testing"

	"duffel/api"
)

// dice is a row of numbers that look thrown, and are the same in every run.
type dice uint64

func (d *dice) next() uint32 {
	*d = *d*6364136223846793005 + 1442695040888963407
	return uint32(*d >> 32)
}

func (d *dice) below(n int) int { return int(d.next() % uint32(n)) }

func (d *dice) bytes(n int) []byte {
	b := make([]byte, n)
	for i := range b {
		b[i] = byte(d.next())
	}
	return b
}

// spread is the bits of bytes one by one, as P1.1 has them, in the plainest way.
func spread(b []byte) []uint32 {
	var l []uint32
	for _, c := range b {
		for place := 1; place < 256; place *= 2 {
			if int(c)&place != 0 {
				l = append(l, 1)
			} else {
				l = append(l, 0)
			}
		}
	}
	return l
}

// gather is the number of bits of which the first is the lowest.
func gather(l []uint32) uint32 {
	x := uint32(0)
	for _, bit := range slices.Backward(l) {
		x = 2*x + bit
	}
	return x
}

// pack is bytes of bits, with noughts behind the last one.
func pack(l []uint32) []byte {
	b := make([]byte, (len(l)+7)/8)
	for i, bit := range l {
		b[i/8] |= byte(bit) << (i % 8)
	}
	return b
}

func wantReader(t *testing.T, r *Reader, left, read int, err api.Errno) {
	t.Helper()
	if r.Left() != left || r.Read() != read || r.Err() != err {
		t.Errorf("left %d, read %d, error %d; want %d, %d, %d", r.Left(), r.Read(), r.Err(), left, read, err)
	}
}

// wantNothing asks for all that a Reader with an error answers.
func wantNothing(t *testing.T, r *Reader, read int, err api.Errno) {
	t.Helper()
	for _, n := range []int{0, 1, 8, 32, -1, 33} {
		if x := r.Bits(n); x != 0 {
			t.Errorf("Bits(%d): %d", n, x)
		}
		if x, there := r.Look(n); x != 0 || there != 0 {
			t.Errorf("Look(%d): %d, %d", n, x, there)
		}
		if b := r.Bytes(n); len(b) != 0 {
			t.Errorf("Bytes(%d): %v", n, b)
		}
	}
	if x := r.Bit(); x != 0 {
		t.Errorf("Bit: %d", x)
	}
	r.Align()
	wantReader(t, r, 0, read, err)
}

func wantWriter(t *testing.T, w *Writer, n int, b ...byte) {
	t.Helper()
	if got := w.Bytes(); !bytes.Equal(got, b) || w.Len() != n {
		t.Errorf("%v, %d bits; want %v, %d", got, w.Len(), b, n)
	}
}

func TestBitsComeLowestFirst(t *testing.T) { // P1.1
	r := Open([]byte{0b1000_0110, 0b0000_0001})
	want := []uint32{0, 1, 1, 0, 0, 0, 0, 1, 1, 0, 0, 0, 0, 0, 0, 0}
	for i, bit := range want {
		if x := r.Bit(); x != bit {
			t.Errorf("bit %d: %d", i, x)
		}
	}
	wantReader(t, r, 0, 16, api.OK)
}

func TestNumbersHaveTheirLowestBitFirst(t *testing.T) { // P1.1
	r := Open([]byte{5, 0xff, 7})
	for i, want := range [][2]uint32{{3, 5}, {5, 0}, {10, 0x3ff}, {6, 1}} {
		if x := r.Bits(int(want[0])); x != want[1] {
			t.Errorf("number %d: %x, want %x", i, x, want[1])
		}
	}
	r = Open([]byte{0x78, 0x56, 0x34, 0x12})
	if x := r.Bits(32); x != 0x12345678 {
		t.Errorf("%x", x)
	}
}

func TestEveryWidthAtEveryBit(t *testing.T) { // P1.1, P1.2
	d := dice(1)
	all := d.bytes(13)
	bits := spread(all)
	for from := range len(bits) + 1 {
		for n := range min(33, len(bits)-from+1) {
			r := Open(all)
			for k := from; k > 0; k -= min(k, 32) {
				r.Bits(min(k, 32))
			}
			want := gather(bits[from : from+n])
			if x, there := r.Look(n); x != want || there != n {
				t.Fatalf("Look(%d) at %d: %x, %d, want %x", n, from, x, there, want)
			}
			if x := r.Bits(n); x != want {
				t.Fatalf("Bits(%d) at %d: %x, want %x", n, from, x, want)
			}
			wantReader(t, r, len(bits)-from-n, from+n, api.OK)
		}
	}
}

func TestOpenKeepsACopy(t *testing.T) { // P1.2
	b := []byte{1, 2, 3}
	r := Open(b)
	b[0], b[2] = 9, 9
	if got := r.Bytes(3); !bytes.Equal(got, []byte{1, 2, 3}) {
		t.Error(got)
	}
	if !bytes.Equal(b, []byte{9, 2, 9}) {
		t.Error("what was handed in is changed:", b)
	}
}

func TestOpenOfNothing(t *testing.T) { // P1.2
	for _, b := range [][]byte{nil, {}} {
		r := Open(b)
		wantReader(t, r, 0, 0, api.OK)
		r.Align()
		if x, there := r.Look(32); x != 0 || there != 0 {
			t.Error(x, there)
		}
		if x := r.Bits(0); x != 0 {
			t.Error(x)
		}
		if got := r.Bytes(0); len(got) != 0 {
			t.Error(got)
		}
		wantReader(t, r, 0, 0, api.OK)
		r.Bit()
		wantNothing(t, r, 0, api.ErrShort)
	}
}

func TestBitsOfNone(t *testing.T) { // P1.2
	r := Open([]byte{0xff})
	for _, left := range []int{8, 3, 0} {
		r.Bits(r.Left() - left)
		if x := r.Bits(0); x != 0 {
			t.Error(x)
		}
		wantReader(t, r, left, 8-left, api.OK)
	}
}

func TestBitsOfAWrongNumber(t *testing.T) { // P1.2
	for _, n := range []int{-1, 33, 64, math.MinInt, math.MaxInt} {
		for _, b := range [][]byte{nil, bytes.Repeat([]byte{0xff}, 20)} {
			r := Open(b)
			if x := r.Bits(n); x != 0 {
				t.Errorf("Bits(%d): %d", n, x)
			}
			wantNothing(t, r, 0, api.ErrArg)
		}
	}
}

func TestBitsOfMoreThanAreLeft(t *testing.T) { // P1.2
	r := Open([]byte{0xff, 0xff})
	r.Bits(11)
	if x := r.Bits(6); x != 0 {
		t.Error(x)
	}
	wantNothing(t, r, 11, api.ErrShort)

	r = Open([]byte{0xff, 0xff})
	r.Bits(11)
	if x := r.Bits(5); x != 0x1f {
		t.Error(x)
	}
	wantReader(t, r, 0, 16, api.OK)
	if x := r.Bit(); x != 0 {
		t.Error(x)
	}
	wantNothing(t, r, 16, api.ErrShort)
}

func TestLookReadsNothing(t *testing.T) { // P1.2
	r := Open([]byte{0xa5, 0xff, 7})
	for range 3 {
		if x, there := r.Look(12); x != 0xfa5 || there != 12 {
			t.Errorf("%x, %d", x, there)
		}
		wantReader(t, r, 24, 0, api.OK)
	}
	if x, there := r.Look(0); x != 0 || there != 0 {
		t.Error(x, there)
	}
}

func TestLookBeyondTheEnd(t *testing.T) { // P1.2
	r := Open([]byte{0xa5, 0xff, 7})
	if x, there := r.Look(32); x != 0x07ffa5 || there != 24 {
		t.Errorf("%x, %d", x, there)
	}
	r.Bits(21)
	if x, there := r.Look(32); x != 0 || there != 3 {
		t.Errorf("%x, %d", x, there)
	}
	r.Bits(3)
	if x, there := r.Look(1); x != 0 || there != 0 {
		t.Errorf("%x, %d", x, there)
	}
	wantReader(t, r, 0, 24, api.OK)
}

func TestLookOfAWrongNumberIsNoError(t *testing.T) { // P1.2
	r := Open(bytes.Repeat([]byte{0xff}, 20))
	for _, n := range []int{-1, 33, math.MinInt, math.MaxInt} {
		if x, there := r.Look(n); x != 0 || there != 0 {
			t.Errorf("Look(%d): %d, %d", n, x, there)
		}
	}
	wantReader(t, r, 160, 0, api.OK)
}

func TestReaderAligns(t *testing.T) { // P1.2
	for n := range 25 {
		r := Open([]byte{1, 2, 3})
		r.Bits(n)
		next := (n + 7) / 8 * 8
		for range 2 { // the second time it stands at a byte's beginning
			r.Align()
			wantReader(t, r, 24-next, next, api.OK)
		}
		if x := r.Bits(24 - next); x != 0x030201>>next {
			t.Errorf("behind %d bits: %x", n, x)
		}
	}
}

func TestReaderBytes(t *testing.T) { // P1.2
	r := Open([]byte{1, 2, 3, 4})
	r.Bits(8)
	if b := r.Bytes(2); !bytes.Equal(b, []byte{2, 3}) {
		t.Error(b)
	}
	wantReader(t, r, 8, 24, api.OK)
	if b := r.Bytes(0); len(b) != 0 {
		t.Error(b)
	}
	if b := r.Bytes(1); !bytes.Equal(b, []byte{4}) {
		t.Error(b)
	}
	if b := r.Bytes(0); len(b) != 0 {
		t.Error(b)
	}
	wantReader(t, r, 0, 32, api.OK)
	if b := r.Bytes(1); len(b) != 0 {
		t.Error(b)
	}
	wantNothing(t, r, 32, api.ErrShort)
}

func TestReaderBytesAreNewMemory(t *testing.T) { // R3
	r := Open([]byte{1, 2, 3, 4})
	b := r.Bytes(2)
	b[0], b[1] = 9, 9
	b = append(b, 9, 9)
	if got := r.Bytes(2); !bytes.Equal(got, []byte{3, 4}) {
		t.Error(got, b)
	}
}

func TestReaderBytesErrorsInTheirOrder(t *testing.T) { // P1.2, R2
	for _, c := range []struct {
		read, n int
		want    api.Errno
	}{
		{0, -1, api.ErrArg},
		{3, -1, api.ErrArg},
		{0, math.MinInt, api.ErrArg},
		{3, 0, api.ErrForm},
		{3, 1, api.ErrForm},
		{3, 9, api.ErrForm},
		{15, 1, api.ErrForm},
		{0, 3, api.ErrShort},
		{8, 2, api.ErrShort},
		{16, 1, api.ErrShort},
		{0, math.MaxInt, api.ErrShort},
		{0, math.MaxInt/8 + 1, api.ErrShort},
	} {
		r := Open([]byte{0xff, 0xff})
		r.Bits(c.read)
		if b := r.Bytes(c.n); len(b) != 0 {
			t.Errorf("%v: %v", c, b)
		}
		wantNothing(t, r, c.read, c.want)
	}
}

func TestReaderThatOpenDidNotMake(t *testing.T) { // P1.2, R1
	var none *Reader
	wantReader(t, none, 0, 0, api.ErrNil)
	wantNothing(t, none, 0, api.ErrNil)
	var zero Reader
	wantReader(t, &zero, 0, 0, api.ErrNil)
	wantNothing(t, &zero, 0, api.ErrNil)
}

func TestWriterWithoutBits(t *testing.T) { // P1.3
	w := New()
	wantWriter(t, w, 0)
	w.Align()
	w.PutBytes(nil)
	w.Put(0xffffffff, 0)
	wantWriter(t, w, 0)
	New().Put(1, 1)
	wantWriter(t, New(), 0)
}

func TestPutLowestBitFirst(t *testing.T) { // P1.1, P1.3
	w := New()
	w.Put(1, 1)
	w.Put(2, 2)
	wantWriter(t, w, 3, 5)
	w.Put(0x3ff, 7)
	wantWriter(t, w, 10, 0xfd, 3)
	w.Put(0x12345678, 32)
	wantWriter(t, w, 42, 0xfd, 0xe3, 0x59, 0xd1, 0x48, 0)
}

func TestPutTakesTheLowestBitsAlone(t *testing.T) { // P1.3
	for n := range 33 {
		w := New()
		w.Put(0, 3)
		w.Put(math.MaxUint32, n)
		w.Put(0, 3)
		want := slices.Concat(make([]uint32, 3), slices.Repeat([]uint32{1}, n), make([]uint32, 3))
		wantWriter(t, w, n+6, pack(want)...)
	}
}

func TestPutOfAWrongNumber(t *testing.T) { // P1.3
	for _, n := range []int{-1, -32, math.MinInt} {
		w := New()
		w.Put(math.MaxUint32, n)
		wantWriter(t, w, 0)
		w.Put(1, 1)
		w.Put(math.MaxUint32, n)
		wantWriter(t, w, 1, 1)
	}
	for _, n := range []int{33, 64, math.MaxInt} {
		w := New()
		w.Put(0, 7)
		w.Put(0x80000001, n)
		wantWriter(t, w, 39, 0x80, 0, 0, 0, 0x40)
	}
}

func TestWriterAligns(t *testing.T) { // P1.3
	for n := range 33 {
		w := New()
		w.Put(math.MaxUint32, n)
		next := (n + 7) / 8 * 8
		want := pack(slices.Concat(slices.Repeat([]uint32{1}, n), make([]uint32, next-n)))
		for range 2 {
			w.Align()
			wantWriter(t, w, next, want...)
		}
		w.Put(3, 2)
		wantWriter(t, w, next+2, append(want, 3)...)
	}
}

func TestPutBytes(t *testing.T) { // P1.3
	w := New()
	b := []byte{7, 8}
	w.PutBytes(b)
	b[0], b[1] = 9, 9
	wantWriter(t, w, 16, 7, 8)
	w.Put(1, 1)
	w.PutBytes([]byte{0xff})
	wantWriter(t, w, 32, 7, 8, 1, 0xff)
	w.Put(1, 1)
	w.PutBytes(nil)
	wantWriter(t, w, 40, 7, 8, 1, 0xff, 1)
	w.Put(1, 1)
	wantWriter(t, w, 41, 7, 8, 1, 0xff, 1, 1)
}

func TestWriterBytesAreNewMemory(t *testing.T) { // P1.3, R3
	for _, more := range []int{0, 1} {
		w := New()
		w.PutBytes([]byte{1, 2, 3})
		w.Put(1, more)
		first, second := w.Bytes(), w.Bytes()
		first[0] = 9
		first[len(first)-1] = 9
		first = append(first, 9)
		if second[0] != 1 {
			t.Error("two answers share memory:", first, second)
		}
		w.Put(0, 8-more)
		w.Put(5, 8)
		if got := w.Bytes(); !bytes.Equal(got, []byte{1, 2, 3, byte(more), 5}) {
			t.Error(got)
		}
	}
}

func TestZeroWriterIsAsNewMadeIt(t *testing.T) { // P1.3
	var w Writer
	wantWriter(t, &w, 0)
	w.Align()
	wantWriter(t, &w, 0)
	w.Put(2, 2)
	w.PutBytes([]byte{4})
	w.Put(1, 1)
	wantWriter(t, &w, 17, 2, 4, 1)
}

func TestNilWriter(t *testing.T) { // P1.3, R1
	var w *Writer
	w.Put(1, 1)
	w.Put(1, 33)
	w.Put(1, -1)
	w.Align()
	w.PutBytes([]byte{1})
	wantWriter(t, w, 0)
}

func TestTurn(t *testing.T) { // P1.4
	for _, c := range []struct {
		x    uint32
		n    int
		want uint32
	}{
		{1, 4, 8},
		{0b1101, 4, 0b1011},
		{0b1101, 3, 0b101},
		{0xfffffff0, 4, 0},
		{1, 1, 1},
		{2, 1, 0},
		{math.MaxUint32, 0, 0},
		{math.MaxUint32, -1, 0},
		{math.MaxUint32, math.MinInt, 0},
		{1, 32, 1 << 31},
		{0x12345678, 32, 0x1e6a2c48},
		{0x12345678, 33, 0x1e6a2c48},
		{0x12345678, math.MaxInt, 0x1e6a2c48},
	} {
		if x := Turn(c.x, c.n); x != c.want {
			t.Errorf("Turn(%x, %d): %x, want %x", c.x, c.n, x, c.want)
		}
	}
}

func TestTurnBitByBit(t *testing.T) { // P1.4, P1.5
	d := dice(2)
	for n := range 33 {
		for range 20 {
			x := d.next()
			want := uint32(0)
			for i := range n {
				want |= x >> i & 1 << (n - 1 - i)
			}
			y := Turn(x, n)
			if y != want {
				t.Fatalf("Turn(%x, %d): %x, want %x", x, n, y, want)
			}
			if back := Turn(y, n); uint64(back) != uint64(x)&(1<<n-1) {
				t.Fatalf("Turn(%x, %d): %x, and back: %x", x, n, y, back)
			}
		}
	}
}

// part is a number with its width, or (width -1) an end of a byte, or (width -2) bytes.
type part struct {
	x     uint32
	width int
	b     []byte
}

func (d *dice) part() part {
	switch d.below(12) {
	case 0:
		return part{width: -1}
	case 1:
		return part{width: -2, b: d.bytes(d.below(5))}
	}
	width := d.below(33)
	return part{x: uint32(uint64(d.next()) & (1<<width - 1)), width: width}
}

func (p part) put(w *Writer, l []uint32) []uint32 {
	if p.width >= 0 {
		w.Put(p.x, p.width)
		for i := range p.width {
			l = append(l, p.x>>i&1)
		}
		return l
	}
	if p.width == -1 {
		w.Align()
	} else {
		w.PutBytes(p.b)
	}
	for len(l)%8 != 0 {
		l = append(l, 0)
	}
	return append(l, spread(p.b)...)
}

func (p part) isNext(r *Reader) bool {
	if p.width >= 0 {
		return r.Bits(p.width) == p.x
	}
	r.Align()
	return bytes.Equal(r.Bytes(len(p.b)), p.b)
}

func TestWhatIsWrittenIsReadAsItWas(t *testing.T) { // P1.5
	d := dice(3)
	for range 300 {
		w := New()
		var parts []part
		var bits []uint32
		for range d.below(60) {
			p := d.part()
			parts = append(parts, p)
			bits = p.put(w, bits)
			wantWriter(t, w, len(bits), pack(bits)...)
		}
		r := Open(w.Bytes())
		for i, p := range parts {
			if !p.isNext(r) {
				t.Fatalf("part %d of %v is another one", i, parts)
			}
		}
		wantReader(t, r, -len(bits)&7, len(bits), api.OK)
	}
}
