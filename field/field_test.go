package field

import (
	"bytes"
	"math"
	"testing"

	"duffel/api"
)

// dice is a row of numbers that look thrown, and are the same in every run.
type dice uint64

func (d *dice) next() uint32 {
	*d = *d*6364136223846793005 + 1442695040888963407
	return uint32(*d >> 32)
}

func (d *dice) below(n int) int { return int(d.next() % uint32(n)) }

func (d *dice) bytes(n int) []byte {
	b := make([]byte, n)
	for i := range b {
		b[i] = byte(d.next())
	}
	return b
}

// wantCursor asks for all that a Cursor tells without reading.
func wantCursor(t *testing.T, c *Cursor, left, at int, err api.Errno) {
	t.Helper()
	end := err
	if err == api.OK && left > 0 {
		end = api.ErrRest
	}
	if c.Left() != left || c.At() != at || c.Err() != err || c.End() != end {
		t.Errorf("left %d, at %d, error %d, end %d; want %d, %d, %d, %d",
			c.Left(), c.At(), c.Err(), c.End(), left, at, err, end)
	}
}

// wantNothing asks for all that a Cursor with an error answers.
func wantNothing(t *testing.T, c *Cursor, at int, err api.Errno) {
	t.Helper()
	for _, n := range []int{0, 1, 2, 4, 100, -1, math.MinInt, math.MaxInt} {
		if b := c.Bytes(n); len(b) != 0 {
			t.Errorf("Bytes(%d): %v", n, b)
		}
		if x := c.U16(); x != 0 {
			t.Errorf("U16: %d", x)
		}
		if x := c.U32(); x != 0 {
			t.Errorf("U32: %d", x)
		}
		wantCursor(t, c, 0, at, err)
	}
}

func wantRow(t *testing.T, r *Row, err api.Errno, b ...byte) {
	t.Helper()
	if got := r.Bytes(); !bytes.Equal(got, b) || r.Err() != err {
		t.Errorf("%v, error %d; want %v, %d", got, r.Err(), b, err)
	}
}

func TestNumbersHaveTheirLowestByteFirst(t *testing.T) { // P2.1
	c := Open([]byte{2, 1, 0x78, 0x56, 0x34, 0x12, 0xff, 0xff, 0xff, 0xff, 0xff, 0xff, 0, 0x80, 0, 0, 0, 0x80})
	if x := c.U16(); x != 258 {
		t.Error(x)
	}
	wantCursor(t, c, 16, 2, api.OK)
	if x := c.U32(); x != 0x12345678 {
		t.Errorf("%x", x)
	}
	wantCursor(t, c, 12, 6, api.OK)
	if x := c.U16(); x != 65535 {
		t.Error(x)
	}
	if x := c.U32(); x != math.MaxUint32 {
		t.Errorf("%x", x)
	}
	if x := c.U16(); x != 0x8000 {
		t.Errorf("%x", x)
	}
	if x := c.U32(); x != 1<<31 {
		t.Errorf("%x", x)
	}
	wantCursor(t, c, 0, 18, api.OK)
}

func TestEachByteOfANumber(t *testing.T) { // P2.1
	for i := range 4 {
		b := make([]byte, 4)
		b[i] = 0xa5
		if x := Open(b).U32(); x != 0xa5<<(8*i) {
			t.Errorf("byte %d: %x", i, x)
		}
		if x := Open(b).U16(); x != 0xa5<<(8*i)&0xffff {
			t.Errorf("byte %d: %x", i, x)
		}
	}
}

func TestOpenKeepsACopy(t *testing.T) { // P2.1, R3
	b := []byte{1, 2, 3}
	c := Open(b)
	b[0], b[2] = 9, 9
	if got := c.Bytes(3); !bytes.Equal(got, []byte{1, 2, 3}) {
		t.Error(got)
	}
	if !bytes.Equal(b, []byte{9, 2, 9}) {
		t.Error("what was handed in is changed:", b)
	}
}

func TestOpenOfNothing(t *testing.T) { // P2.1
	for _, b := range [][]byte{nil, {}} {
		c := Open(b)
		wantCursor(t, c, 0, 0, api.OK)
		if got := c.Bytes(0); len(got) != 0 {
			t.Error(got)
		}
		wantCursor(t, c, 0, 0, api.OK)
		c.U16()
		wantNothing(t, c, 0, api.ErrShort)
	}
}

func TestCursorBytes(t *testing.T) { // P2.1
	c := Open([]byte{1, 2, 3, 4})
	if b := c.Bytes(3); !bytes.Equal(b, []byte{1, 2, 3}) {
		t.Error(b)
	}
	wantCursor(t, c, 1, 3, api.OK)
	if b := c.Bytes(0); len(b) != 0 {
		t.Error(b)
	}
	wantCursor(t, c, 1, 3, api.OK)
	if b := c.Bytes(1); !bytes.Equal(b, []byte{4}) {
		t.Error(b)
	}
	wantCursor(t, c, 0, 4, api.OK)
	if b := c.Bytes(0); len(b) != 0 {
		t.Error(b)
	}
	wantCursor(t, c, 0, 4, api.OK)
}

func TestCursorBytesAreNewMemory(t *testing.T) { // P2.1, R3
	c := Open([]byte{1, 2, 3, 4})
	b := c.Bytes(2)
	b[0], b[1] = 9, 9
	b = append(b, 9, 9)
	if got := c.Bytes(2); !bytes.Equal(got, []byte{3, 4}) {
		t.Error(got, b)
	}
	if !bytes.Equal(c.all, []byte{1, 2, 3, 4}) {
		t.Error("the answer is the cursor's own memory:", c.all)
	}
}

func TestTakenBytesAreCut(t *testing.T) { // P2.1, the way three-index
	c := Open([]byte{1, 2, 3, 4})
	b := append(c.take(2), 9, 9)
	if got := c.Bytes(2); !bytes.Equal(got, []byte{3, 4}) {
		t.Error(got, b)
	}
}

func TestFewerBytesThanAreAskedFor(t *testing.T) { // P2.1
	all := []byte{1, 2, 3, 4, 5, 6, 7, 8}
	for _, ask := range []struct {
		name string
		n    int
		read func(c *Cursor)
	}{
		{"U16", 2, func(c *Cursor) { c.U16() }},
		{"U32", 4, func(c *Cursor) { c.U32() }},
		{"Bytes(1)", 1, func(c *Cursor) { c.Bytes(1) }},
		{"Bytes(5)", 5, func(c *Cursor) { c.Bytes(5) }},
		{"Bytes(9)", 9, func(c *Cursor) { c.Bytes(9) }},
		{"Bytes(MaxInt)", math.MaxInt, func(c *Cursor) { c.Bytes(math.MaxInt) }},
	} {
		for at := range len(all) + 1 {
			c := Open(all)
			c.Bytes(at)
			ask.read(c)
			if ask.n <= len(all)-at {
				wantCursor(t, c, len(all)-at-ask.n, at+ask.n, api.OK)
			} else {
				wantNothing(t, c, at, api.ErrShort)
			}
			if t.Failed() {
				t.Fatalf("%s at %d", ask.name, at)
			}
		}
	}
}

func TestCursorBytesOfAWrongNumber(t *testing.T) { // P2.1
	for _, n := range []int{-1, -2, math.MinInt} {
		for _, b := range [][]byte{nil, {0xff, 0xff, 0xff, 0xff, 0xff, 0xff}} {
			c := Open(b)
			if got := c.Bytes(n); len(got) != 0 {
				t.Errorf("Bytes(%d): %v", n, got)
			}
			wantNothing(t, c, 0, api.ErrArg)
		}
	}
}

func TestTheFirstErrorOfACursorStays(t *testing.T) { // P2.1
	c := Open([]byte{1, 2, 3})
	c.Bytes(1)
	c.U32()
	c.Bytes(-1)
	wantNothing(t, c, 1, api.ErrShort)
	c = Open([]byte{1, 2, 3})
	c.Bytes(1)
	c.Bytes(-1)
	c.U32()
	wantNothing(t, c, 1, api.ErrArg)
}

func TestEndChangesNothing(t *testing.T) { // P2.1
	c := Open([]byte{1, 2})
	for range 3 {
		if e := c.End(); e != api.ErrRest {
			t.Error(e)
		}
	}
	wantCursor(t, c, 2, 0, api.OK)
	if x := c.U16(); x != 0x0201 {
		t.Errorf("%x", x)
	}
	if e := c.End(); e != api.OK {
		t.Error(e)
	}
}

func TestEndTellsTheErrorAheadOfTheRest(t *testing.T) { // P2.1, R2
	c := Open([]byte{1, 2, 3})
	c.U32()
	if e := c.End(); e != api.ErrShort {
		t.Error(e)
	}
	c = Open([]byte{1, 2, 3})
	c.Bytes(-1)
	if e := c.End(); e != api.ErrArg {
		t.Error(e)
	}
}

func TestCursorThatOpenDidNotMake(t *testing.T) { // P2.1, R1
	var none *Cursor
	wantCursor(t, none, 0, 0, api.ErrNil)
	wantNothing(t, none, 0, api.ErrNil)
	var zero Cursor
	wantCursor(t, &zero, 0, 0, api.ErrNil)
	wantNothing(t, &zero, 0, api.ErrNil)
}

func TestRowWithoutBytes(t *testing.T) { // P2.2
	r := New()
	wantRow(t, r, api.OK)
	r.Put(nil).Put([]byte{})
	wantRow(t, r, api.OK)
	New().U16(1)
	wantRow(t, New(), api.OK)
}

func TestRowPutsTheLowestByteFirst(t *testing.T) { // P2.2
	r := New()
	r.U16(258)
	wantRow(t, r, api.OK, 2, 1)
	r.U32(1)
	wantRow(t, r, api.OK, 2, 1, 1, 0, 0, 0)
	r.Put([]byte("xy"))
	wantRow(t, r, api.OK, 2, 1, 1, 0, 0, 0, 'x', 'y')
	r.U32(0x12345678)
	wantRow(t, r, api.OK, 2, 1, 1, 0, 0, 0, 'x', 'y', 0x78, 0x56, 0x34, 0x12)
	wantRow(t, New().U16(0), api.OK, 0, 0)
	wantRow(t, New().U16(65535), api.OK, 0xff, 0xff)
	wantRow(t, New().U32(0), api.OK, 0, 0, 0, 0)
	wantRow(t, New().U32(math.MaxUint32), api.OK, 0xff, 0xff, 0xff, 0xff)
}

func TestEachCallAnswersTheRow(t *testing.T) { // P2.2
	r := New()
	for _, err := range []api.Errno{api.OK, api.ErrLimit} {
		if r.U16(1) != r || r.U32(1) != r || r.Put([]byte{1}) != r || r.Put(nil) != r {
			t.Error("another row, error", err)
		}
		if r.Err() != err {
			t.Error(r.Err())
		}
		if r.U16(-1) != r {
			t.Error("another row at the error")
		}
	}
}

func TestRowOfAWrongNumber(t *testing.T) { // P2.2
	for _, x := range []int{-1, 65536, -65536, math.MaxInt32, math.MinInt, math.MaxInt} {
		r := New().Put([]byte{1, 2}).U16(x)
		wantRow(t, r, api.ErrLimit)
		r.U16(1).U32(1).Put([]byte{1}).U16(x)
		wantRow(t, r, api.ErrLimit)
		if !bytes.Equal(r.all, []byte{1, 2}) {
			t.Error("put behind the error:", r.all)
		}
		wantRow(t, New().U16(x), api.ErrLimit)
	}
}

func TestRowKeepsACopy(t *testing.T) { // P2.2, R3
	b := []byte{7, 8}
	r := New().Put(b)
	b[0], b[1] = 9, 9
	wantRow(t, r, api.OK, 7, 8)
	r.Put([]byte{5}).U16(6)
	if !bytes.Equal(b, []byte{9, 9}) {
		t.Error("what was handed in is changed:", b)
	}
}

func TestRowBytesAreNewMemory(t *testing.T) { // P2.2, R3
	r := New().Put([]byte{1, 2, 3})
	first, second := r.Bytes(), r.Bytes()
	first[0], first[2] = 9, 9
	first = append(first, 9)
	if !bytes.Equal(second, []byte{1, 2, 3}) {
		t.Error("two answers share memory:", first, second)
	}
	r.U16(4)
	wantRow(t, r, api.OK, 1, 2, 3, 4, 0)
	r.Put(r.Bytes())
	wantRow(t, r, api.OK, 1, 2, 3, 4, 0, 1, 2, 3, 4, 0)
}

func TestZeroRowIsAsNewMadeIt(t *testing.T) { // P2.2
	var r Row
	wantRow(t, &r, api.OK)
	if r.U16(1) != &r || r.U32(2) != &r || r.Put([]byte{3}) != &r {
		t.Error("another row")
	}
	wantRow(t, &r, api.OK, 1, 0, 2, 0, 0, 0, 3)
	wantRow(t, r.U16(-1), api.ErrLimit)
}

func TestNilRow(t *testing.T) { // P2.2, R1
	var r *Row
	wantRow(t, r, api.ErrNil)
	if r.U16(1) != nil || r.U16(-1) != nil || r.U32(1) != nil || r.Put([]byte{1}) != nil {
		t.Error("a row of a nil one")
	}
	wantRow(t, r, api.ErrNil)
	wantRow(t, r.U16(65536).U32(1).Put(nil).U16(1), api.ErrNil)
}

func TestFind(t *testing.T) { // P2.3
	const sign = 0x2e2e4b50 // PK..
	text := "PK..PK..-PK.PK..x"
	for _, c := range []struct {
		text       string
		from, want int
	}{
		{text, len(text), 12},
		{text, math.MaxInt, 12},
		{text, 13, 12},
		{text, 12, 12},
		{text, 11, 4},
		{text, 5, 4},
		{text, 4, 4},
		{text, 3, 0},
		{text, 0, 0},
		{text, -1, -1},
		{text, math.MinInt, -1},
		{"PK..", 0, 0},
		{"PK..", 4, 0},
		{"PK..", math.MaxInt, 0},
		{"PK..", -1, -1},
		{"xPK..", 0, -1},
		{"xPK..", 1, 1},
		{"PK.", 0, -1},
		{"PK.", 3, -1},
		{"PK.", math.MaxInt, -1},
		{"", 0, -1},
		{"", math.MaxInt, -1},
		{"..KP..KP", 8, -1},
		{"PK.-PK-.P...-K..", 16, -1},
	} {
		if at := Find([]byte(c.text), sign, c.from); at != c.want {
			t.Errorf("Find of %q from %d: %d, want %d", c.text, c.from, at, c.want)
		}
	}
	if at := Find(nil, 0, 0); at != -1 {
		t.Error(at)
	}
}

func TestFindAmongOverlaps(t *testing.T) { // P2.3
	b := make([]byte, 9)
	for from := range 20 {
		if at := Find(b, 0, from); at != min(from, 5) {
			t.Errorf("from %d: %d", from, at)
		}
	}
	b = []byte{0xff, 0xff, 0xff, 0xff, 0xff}
	if at := Find(b, math.MaxUint32, 9); at != 1 {
		t.Error(at)
	}
}

func TestFindChangesNothing(t *testing.T) { // P2.3, R3
	b := []byte{1, 2, 3, 4, 9, 9, 9, 9}
	if at := Find(b[:5], 0x04030201, 5); at != 0 {
		t.Error(at)
	}
	if at := Find(b[:3], 0x04030201, 5); at != -1 {
		t.Error("found behind the end:", at)
	}
	if !bytes.Equal(b, []byte{1, 2, 3, 4, 9, 9, 9, 9}) {
		t.Error(b)
	}
}

// findPlainly looks at place by place, as P2.3 has it.
func findPlainly(b []byte, sign uint32, from int) int {
	last := -1
	for at := range len(b) {
		c := Open(b[at:])
		if at <= from && c.U32() == sign && c.Err() == api.OK {
			last = at
		}
	}
	return last
}

func TestFindAnywhere(t *testing.T) { // P2.3
	d := dice(1)
	for range 200 {
		b := d.bytes(d.below(60))
		for i := range b {
			b[i] &= 1
		}
		sign := d.next() & 0x01010101
		for from := -2; from < len(b)+3; from++ {
			at, want := Find(b, sign, from), findPlainly(b, sign, from)
			if at != want {
				t.Fatalf("Find(%v, %x, %d): %d, want %d", b, sign, from, at, want)
			}
		}
	}
}

// part is a number of two bytes, one of four, or bytes.
type part struct {
	kind int
	x    uint32
	b    []byte
}

func (d *dice) part() part {
	switch kind := d.below(3); kind {
	case 0:
		return part{kind: kind, x: d.next() & 0xffff}
	case 1:
		return part{kind: kind, x: d.next()}
	default:
		return part{kind: kind, b: d.bytes(d.below(6))}
	}
}

func (p part) put(r *Row) *Row {
	switch p.kind {
	case 0:
		return r.U16(int(p.x))
	case 1:
		return r.U32(p.x)
	default:
		return r.Put(p.b)
	}
}

func (p part) isNext(c *Cursor) bool {
	switch p.kind {
	case 0:
		return c.U16() == int(p.x)
	case 1:
		return c.U32() == p.x
	default:
		return bytes.Equal(c.Bytes(len(p.b)), p.b)
	}
}

func TestWhatIsPutIsReadAsItWas(t *testing.T) { // P2.4
	d := dice(2)
	for range 300 {
		r := New()
		parts := make([]part, d.below(40))
		for i := range parts {
			parts[i] = d.part()
			parts[i].put(r)
		}
		all := r.Bytes()
		c := Open(all)
		for i, p := range parts {
			if !p.isNext(c) {
				t.Fatalf("part %d of %v is another one", i, parts)
			}
		}
		wantCursor(t, c, 0, len(all), api.OK)
	}
}

func TestEveryNumberOfTwoBytesIsReadAsItWas(t *testing.T) { // P2.4
	for x := range 65536 {
		c := Open(New().U16(x).Bytes())
		if got := c.U16(); got != x || c.End() != api.OK {
			t.Fatal(got, x, c.End())
		}
	}
}
