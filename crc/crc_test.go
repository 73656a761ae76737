package crc

import (
	"bytes"
	"hash/crc32"
	"math"
	"math/bits"
	"testing"
)

// dice is a row of numbers that look thrown, and are the same in every run.
type dice uint64

func (d *dice) next() uint32 {
	*d = *d*6364136223846793005 + 1442695040888963407
	return uint32(*d >> 32)
}

func (d *dice) bytes(n int) []byte {
	b := make([]byte, n)
	for i := range b {
		b[i] = byte(d.next())
	}
	return b
}

func (d *dice) table() [256]uint32 {
	var t [256]uint32
	for i := range t {
		t[i] = d.next()
	}
	return t
}

func wantSum(t *testing.T, got, want uint32) {
	t.Helper()
	if got != want {
		t.Errorf("%08x; want %08x", got, want)
	}
}

// rest is what dividing by P3.1's polynomial leaves of another one, in both of which
// the bit i is the coefficient of x^i.
func rest(p uint64) uint32 {
	by := uint64(0)
	for _, power := range []int{32, 26, 23, 22, 16, 12, 11, 10, 8, 7, 5, 4, 2, 1, 0} {
		by |= 1 << power
	}
	for place := 63; place >= 32; place-- {
		if p>>place&1 == 1 {
			p ^= by << (place - 32)
		}
	}
	return uint32(p)
}

func TestTableIsOfThePolynomial(t *testing.T) { // P3.1
	for c, got := range Table() {
		// A step is: times x. The word's lowest bit is the coefficient of x^31.
		word := uint64(bits.Reverse32(uint32(c)))
		want := bits.Reverse32(rest(word << 8))
		if got != want {
			t.Errorf("word %d: %08x; want %08x", c, got, want)
		}
	}
}

func TestTableByTheLibrarysOwn(t *testing.T) { // P3.1
	if Table() != [256]uint32(*crc32.IEEETable) {
		t.Error("another table")
	}
}

func TestWordsOfTheTable(t *testing.T) { // P3.1
	table := Table()
	wantSum(t, table[0], 0)
	wantSum(t, table[1], 0x77073096)
	wantSum(t, table[2], 0xee0e612c)
	wantSum(t, table[127], 0xc0ba6cad)
	wantSum(t, table[254], 0x5a05df1b)
	wantSum(t, table[128], 0xedb88320) // the 1 falls out at the last step
	wantSum(t, table[255], 0x2d02ef8d)
}

func TestTableIsNewEachTime(t *testing.T) { // P3.1, R3
	first := Table()
	first[1] = 0
	wantSum(t, Table()[1], 0x77073096)
	wantSum(t, Sum([]byte("123456789")), 0xcbf43926)
}

func TestStep(t *testing.T) { // P3.1
	for _, c := range []struct{ word, want uint32 }{
		{0, 0},
		{1, 0xedb88320},
		{2, 1},
		{3, 1 ^ 0xedb88320},
		{1 << 31, 1 << 30},
		{math.MaxUint32, math.MaxInt32 ^ 0xedb88320},
	} {
		wantSum(t, step(c.word), c.want)
	}
}

func TestSum(t *testing.T) { // P3.2
	for _, c := range []struct {
		text string
		want uint32
	}{
		{"", 0},
		{"123456789", 0xcbf43926},
		{"a", 0xe8b7be43},
		{"abc", 0x352441c2},
		{"\x00", 0xd202ef8d},
		{"\xff", 0xff000000},
		{"\x00\x00\x00\x00", 0x2144df1c},
		{"\xff\xff\xff\xff", 0xffffffff},
		{"The quick brown fox jumps over the lazy dog", 0x414fa339},
	} {
		wantSum(t, Sum([]byte(c.text)), c.want)
		wantSum(t, Add(Table(), 0, []byte(c.text)), c.want)
	}
	wantSum(t, Sum(nil), 0)
}

func TestSumByTheLibrarysOwn(t *testing.T) { // P3.2
	d := dice(1)
	for n := range 300 {
		b := d.bytes(n)
		wantSum(t, Sum(b), crc32.ChecksumIEEE(b))
	}
	long := d.bytes(1<<20 + 3)
	wantSum(t, Sum(long), crc32.ChecksumIEEE(long))
}

func TestAddOfNothing(t *testing.T) { // P3.2
	d := dice(2)
	for _, s := range []uint32{0, 1, 0xcbf43926, 1 << 31, math.MaxUint32} {
		for _, b := range [][]byte{nil, {}} {
			wantSum(t, Add(Table(), s, b), s)
			wantSum(t, Add(d.table(), s, b), s)
			wantSum(t, Add([256]uint32{}, s, b), s)
		}
	}
}

func TestAddTakesTheTableThatItIsGiven(t *testing.T) { // P3.2
	var table [256]uint32
	for i := range table {
		table[i] = uint32(i) + 1
	}
	// The word is ffffffff; f0 asks for the table's word 0f, which is 10, put to 00ffffff.
	wantSum(t, Add(table, 0, []byte{0xf0}), 0xff000010)
	// The word is 00ffffef then; 00 asks for the word ef, which is f0, put to 0000ffff.
	wantSum(t, Add(table, 0, []byte{0xf0, 0}), 0xffff00f0)
	// The word is 12345678; 87 asks for the word ff, which is 100, put to 00123456.
	wantSum(t, Add(table, ^uint32(0x12345678), []byte{0x87}), 0xffedcaa9)
}

func TestAddAsksForOneWordAByte(t *testing.T) { // P3.2
	for c := range 256 {
		for _, low := range []uint32{0, 1, 0x5a, 0x80, 0xff} {
			var table [256]uint32
			table[int(low)^c] = 0xa5000000
			wantSum(t, Add(table, ^low, []byte{byte(c)}), ^uint32(0xa5000000))
		}
	}
}

// addPlainly goes byte by byte, as P3.2 has it.
func addPlainly(table [256]uint32, s uint32, b []byte) uint32 {
	word := math.MaxUint32 - s
	for i := range b {
		word = word/256 ^ table[word%256^uint32(b[i])]
	}
	return math.MaxUint32 - word
}

func TestAddWithAnyTable(t *testing.T) { // P3.2
	d := dice(3)
	for n := range 100 {
		table, s, b := d.table(), d.next(), d.bytes(n)
		wantSum(t, Add(table, s, b), addPlainly(table, s, b))
		wantSum(t, Add(Table(), s, b), addPlainly(Table(), s, b))
		wantSum(t, Add(Table(), s, b), crc32.Update(s, crc32.IEEETable, b))
	}
}

func TestAddChangesNothing(t *testing.T) { // P3.2, R3
	d := dice(4)
	table, b := d.table(), d.bytes(50)
	tableWas, was := table, bytes.Clone(b)
	first := Add(table, 7, b)
	if table != tableWas || !bytes.Equal(b, was) {
		t.Error("what was handed in is changed")
	}
	Sum(b)
	if !bytes.Equal(b, was) {
		t.Error("what was handed in is changed")
	}
	wantSum(t, Add(table, 7, b), first)
}

func TestTheTableOfNoughts(t *testing.T) { // P3.3
	var noughts [256]uint32
	for _, b := range [][]byte{{0, 0, 0, 0, 0, 0}, {0xff, 1, 2, 3, 4, 5}} {
		for n, want := range []uint32{0, 0xff000000, 0xffff0000, 0xffffff00, 0xffffffff, 0xffffffff, 0xffffffff} {
			wantSum(t, Add(noughts, 0, b[:n]), want)
		}
		for n, want := range []uint32{0x12345678, 0xff123456, 0xffff1234, 0xffffff12, 0xffffffff, 0xffffffff} {
			wantSum(t, Add(noughts, 0x12345678, b[:n]), want)
		}
	}
}

func TestASumGoesOn(t *testing.T) { // P3.3
	d := dice(5)
	for _, table := range [][256]uint32{Table(), {}, d.table()} {
		for _, s := range []uint32{0, 0xcbf43926, math.MaxUint32} {
			b := d.bytes(70)
			whole := Add(table, s, b)
			for at := range len(b) + 1 {
				wantSum(t, Add(table, Add(table, s, b[:at]), b[at:]), whole)
			}
			one := s
			for i := range b {
				one = Add(table, one, b[i:i+1])
			}
			wantSum(t, one, whole)
		}
	}
}

// turn turns those of the bits of b from one on that are 1 in x, the lowest of x first.
func turn(b []byte, from int, x uint32) {
	for i := range 32 {
		if x>>i&1 == 1 {
			b[(from+i)/8] ^= 1 << ((from + i) % 8)
		}
	}
}

func TestTurnedBitsInARowHaveAnotherSum(t *testing.T) { // P3.3
	d := dice(6)
	table := Table()
	for _, b := range [][]byte{{0}, {0xff, 0}, make([]byte, 9), []byte("123456789"), d.bytes(40)} {
		was := Sum(b)
		for from := range 8 * len(b) {
			for n := 1; n <= min(32, 8*len(b)-from); n++ {
				all := uint32(1<<n - 1)
				// All n of them, and some of them, of which the first and the last are some.
				for _, x := range []uint32{all, 1 | 1<<(n-1) | all&d.next()} {
					turn(b, from, x)
					if Add(table, 0, b) == was {
						t.Errorf("%d bits (%x) from %d on: the same sum", n, x, from)
					}
					turn(b, from, x)
				}
			}
		}
		wantSum(t, Sum(b), was)
	}
}
