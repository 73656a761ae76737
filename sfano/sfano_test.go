package sfano

import (
	"bytes"
	"iter"
	"math"
	"slices"
	"strings"
	"testing"

	"duffel/api"
	"duffel/bitio"
)

// dice is a row of numbers that look thrown, and are the same in every run.
type dice uint64

func (d *dice) below(n int) int {
	*d = *d*6364136223846793005 + 1442695040888963407
	return int(uint64(*d)>>33) % n
}

// lists goes through all lists of one to five symbols that have these lengths.
func lists(lengths ...int) iter.Seq[[]int] {
	return func(yield func([]int) bool) {
		many := 1
		for symbols := range 5 {
			many *= len(lengths)
			for number := range many {
				l := make([]int, symbols+1)
				for s := range l {
					l[s] = lengths[number%len(lengths)]
					number /= len(lengths)
				}
				if !yield(l) {
					return
				}
			}
		}
	}
}

// rising has a word of each length up to the greatest, and a second one of that.
func rising(greatest int) []int {
	var l []int
	for n := 1; n <= greatest; n++ {
		l = append(l, n)
	}
	return append(l, greatest)
}

// grown is a full code of so many symbols: words are thrown for, of which each becomes two longer ones.
func grown(seed dice, symbols int) []int {
	l := []int{1, 1}
	for len(l) < symbols {
		if s := seed.below(len(l)); l[s] < api.MaxCode {
			l[s]++
			l = slices.Insert(l, seed.below(len(l)+1), l[s])
		}
	}
	return l
}

// full are codes of few and of many symbols, whose words weigh 1.
func full() [][]int {
	all := [][]int{
		{1, 1}, {2, 1, 2}, {3, 3, 3, 3, 3, 2, 4, 4}, rising(7), rising(8), rising(9), rising(15), rising(16),
		slices.Repeat([]int{8}, 256), slices.Repeat([]int{6}, 64), slices.Repeat([]int{4}, 16),
		slices.Concat(rising(8)[:8], slices.Repeat([]int{15}, 100), slices.Repeat([]int{16}, 56)),
	}
	for _, l := range all {
		l = slices.Clone(l)
		slices.Reverse(l)
		all = append(all, l)
	}
	for symbols := 2; symbols <= 256; symbols += 1 + symbols/3 {
		all = append(all, grown(dice(symbols), symbols))
	}
	return append(all, grown(1, 255), grown(2, 256), grown(3, 256))
}

// weighOne tells whether words weigh 1; a float has each such sum as it is.
func weighOne(l []int) bool {
	sum := 0.0
	for _, n := range l {
		sum += math.Pow(2, -float64(n))
	}
	return sum == 1
}

// plusOne is the number behind a number of which the first bit is the highest; it has as many bits.
func plusOne(word string) string {
	at := strings.LastIndex(word, "0")
	return word[:at] + "1" + strings.Repeat("0", len(word)-at-1)
}

// wordsPlainly are the words as P6.2 has them, as texts of noughts and ones, the first bit first.
func wordsPlainly(l []int) []string {
	order := make([]int, len(l))
	for s := range order {
		order[s] = s
	}
	slices.SortStableFunc(order, func(a, b int) int { return l[a] - l[b] })
	words := make([]string, len(l))
	ahead := ""
	for _, s := range slices.Backward(order) {
		if ahead == "" {
			words[s] = strings.Repeat("0", l[s])
		} else {
			words[s] = plusOne(ahead)[:l[s]]
		}
		ahead = words[s]
	}
	return words
}

// spell is a word as a text.
func spell(c api.Code) string {
	text := ""
	for i := range c.Len {
		text += string('0' + rune(c.Bits>>i&1))
	}
	return text
}

// open is a reader of which just these bits are left.
func open(text string) *bitio.Reader {
	w := bitio.New()
	ahead := -len(text) & 7
	w.Put(0, ahead)
	for _, bit := range text {
		w.Put(uint32(bit-'0'), 1)
	}
	r := bitio.Open(w.Bytes())
	r.Bits(ahead)
	return r
}

// spoilt is a reader that has an error, and bits that are not told any more.
func spoilt() *bitio.Reader {
	r := bitio.Open(make([]byte, 600))
	r.Bits(-1)
	return r
}

// wantWords asks for all words, as texts.
func wantWords(t *testing.T, l []int, want []string) {
	t.Helper()
	words, e := Codes(l)
	if e != api.OK || len(words) != len(want) {
		t.Fatalf("Codes of %v: %d words, error %d", l, len(words), e)
	}
	for s, c := range words {
		// The text has no bits behind the word; these must be noughts.
		if c.Len != l[s] || spell(c) != want[s] || c.Bits>>c.Len != 0 {
			t.Errorf("Codes of %v: symbol %d has %b, %d bits; want %q", l, s, c.Bits, c.Len, want[s])
		}
	}
}

// wantNoCode asks for the same error of Codes and of New.
func wantNoCode(t *testing.T, l []int, want api.Errno) {
	t.Helper()
	if words, e := Codes(l); words != nil || e != want {
		t.Errorf("Codes of %d lengths, %v ..: %d words, error %d; want %d", len(l), l[:min(len(l), 9)], len(words), e, want)
	}
	if d, e := New(l); d != nil || e != want {
		t.Errorf("New of %d lengths, %v ..: %v, error %d; want %d", len(l), l[:min(len(l), 9)], d != nil, e, want)
	}
}

func TestCodes(t *testing.T) { // P6.2
	wantWords(t, []int{2, 1, 2}, []string{"01", "1", "00"})
	wantWords(t, []int{1, 1}, []string{"1", "0"})
	wantWords(t, []int{2, 2, 2, 2}, []string{"11", "10", "01", "00"})
	wantWords(t, []int{1, 2, 2}, []string{"1", "01", "00"})
	wantWords(t, []int{3, 3, 3, 3, 3, 2, 4, 4}, []string{"101", "100", "011", "010", "001", "11", "0001", "0000"})
	// 001 plus 1 is 010, which is cut to 01.
	wantWords(t, []int{3, 3, 2, 2, 2}, []string{"001", "000", "11", "10", "01"})
	wantWords(t, rising(5), []string{"1", "01", "001", "0001", "00001", "00000"})
}

func TestCodesHaveTheFirstBitLowest(t *testing.T) { // P6.2
	words, e := Codes([]int{3, 3, 3, 3, 3, 2, 4, 4})
	want := []api.Code{{Bits: 5, Len: 3}, {Bits: 1, Len: 3}, {Bits: 6, Len: 3}, {Bits: 2, Len: 3},
		{Bits: 4, Len: 3}, {Bits: 3, Len: 2}, {Bits: 8, Len: 4}, {Bits: 0, Len: 4}}
	if e != api.OK || !slices.Equal(words, want) {
		t.Error(words, e)
	}
}

func TestCodesOfTheLongestWords(t *testing.T) { // P6.1, P6.2
	words, e := Codes(rising(16))
	if e != api.OK || words[0] != (api.Code{Bits: 1, Len: 1}) || words[14] != (api.Code{Bits: 1 << 14, Len: 15}) ||
		words[15] != (api.Code{Bits: 1 << 15, Len: 16}) || words[16] != (api.Code{Bits: 0, Len: 16}) {
		t.Error(words, e)
	}
}

func TestCodesOfAsManySymbolsAsMayBe(t *testing.T) { // P6.1, P6.2
	words, e := Codes(slices.Repeat([]int{8}, 256))
	if e != api.OK || len(words) != 256 {
		t.Fatal(len(words), e)
	}
	for s, c := range words {
		if want := (api.Code{Bits: bitio.Turn(uint32(255-s), 8), Len: 8}); c != want {
			t.Error(s, c, want)
		}
	}
}

func TestCodesOfManyLists(t *testing.T) { // P6.1, P6.2
	come := 0
	for l := range lists(1, 2, 3, 4, 16) {
		if weighOne(l) {
			come++
			wantWords(t, l, wordsPlainly(l))
		} else {
			wantNoCode(t, l, api.ErrTree)
		}
	}
	if come != 1+3+(12+1)+(60+5+10) { // of 2, 3, 4 and 5 symbols, by where each length may stand
		t.Error(come)
	}
	for _, l := range full() {
		wantWords(t, l, wordsPlainly(l))
	}
}

func TestFromLast(t *testing.T) { // P6.2
	l := []int{3, 1, 16, 3, 2, 16, 3}
	want := []int{5, 2, 6, 3, 0, 4, 1}
	if got := slices.Collect(fromLast(l)); !slices.Equal(got, want) {
		t.Error(got, want)
	}
	for most := range want {
		var got []int
		for s := range fromLast(l) {
			if len(got) == most {
				break
			}
			got = append(got, s)
		}
		if !slices.Equal(got, want[:most]) {
			t.Error(got, want[:most])
		}
	}
}

func TestLengthsThatMayNotBe(t *testing.T) { // P6.1, P6.3, P6.4, R2
	for _, l := range [][]int{
		nil, {}, {0}, {-1}, {17}, {math.MinInt}, {math.MaxInt}, {64}, {-64}, {256},
		{0, 1, 1}, {1, 1, 0}, {1, 0, 1}, {1, 1, 17}, {-1, 1, 1}, {1, 1, 1, 17}, {1, 17, 1},
		make([]int, 256), make([]int, 257), slices.Repeat([]int{16}, 257), slices.Repeat([]int{17}, 256),
		slices.Repeat([]int{1}, 257), slices.Repeat([]int{8}, 257), append(slices.Repeat([]int{8}, 256), 16),
		slices.Repeat([]int{9}, 512), // these would weigh 1
		make([]int, 1<<20),
	} {
		wantNoCode(t, l, api.ErrArg)
		if b, e := Pack(l); b != nil || e != api.ErrArg {
			t.Errorf("Pack of %d lengths, %v ..: % x, error %d", len(l), l[:min(len(l), 9)], b, e)
		}
	}
}

func TestLengthsThatMakeNoCode(t *testing.T) { // P6.1, P6.4
	for _, l := range [][]int{
		{1}, {2}, {16}, {1, 2}, {2, 2, 2}, {1, 1, 1}, {1, 1, 16}, {1, 2, 2, 16}, {3, 3, 3, 3, 3, 2, 4, 5},
		{3, 3, 3, 3, 3, 2, 4, 3}, rising(16)[:16], append(rising(16), 16), rising(15)[:15],
		slices.Repeat([]int{1}, 256), slices.Repeat([]int{7}, 256), slices.Repeat([]int{9}, 256),
		slices.Repeat([]int{16}, 256), slices.Repeat([]int{8}, 255),
	} {
		wantNoCode(t, l, api.ErrTree)
	}
	for _, want := range full() {
		// One word more, one less, one longer, one shorter: each time another weight.
		at := len(want) / 2
		if len(want) < 256 {
			wantNoCode(t, append(slices.Clone(want), 16), api.ErrTree)
		}
		wantNoCode(t, slices.Delete(slices.Clone(want), at, at+1), api.ErrTree)
		for _, more := range []int{-1, 1} {
			l := slices.Clone(want)
			l[at] += more
			if l[at] >= 1 && l[at] <= 16 {
				wantNoCode(t, l, api.ErrTree)
			}
		}
	}
}

// wantPacked asks for bytes, and that they are unpacked to the lengths again.
func wantPacked(t *testing.T, l []int, want ...byte) {
	t.Helper()
	b, e := Pack(l)
	if e != api.OK || !bytes.Equal(b, want) {
		t.Errorf("Pack of %v: % x, error %d; want % x", l, b, e, want)
	}
	wantUnpacked(t, b, l)
}

// wantUnpacked asks for lengths, and that all bytes were read for them.
func wantUnpacked(t *testing.T, b []byte, want []int) {
	t.Helper()
	r := bitio.Open(b)
	l, e := Unpack(r, len(want))
	if e != api.OK || !slices.Equal(l, want) {
		t.Errorf("Unpack of % x: %v, error %d; want %v", b, l, e, want)
	}
	if r.Read() != 8*len(b) || r.Err() != api.OK {
		t.Errorf("Unpack of % x: read %d bits, error %d", b, r.Read(), r.Err())
	}
}

func TestPack(t *testing.T) { // P6.3
	wantPacked(t, []int{3, 3, 3, 3, 3, 2, 4, 4}, 0x02, 0x42, 0x01, 0x13)
	wantPacked(t, []int{2, 1, 2}, 2, 0x01, 0x00, 0x01)
	wantPacked(t, []int{1}, 0, 0x00)
	wantPacked(t, []int{16}, 0, 0x0f)
	wantPacked(t, []int{1, 2}, 1, 0x00, 0x01) // lengths that make no code are packed, too
	wantPacked(t, []int{5, 5, 5}, 0, 0x24)
	wantPacked(t, rising(3), 2, 0x00, 0x01, 0x12)
	wantPacked(t, slices.Repeat([]int{8}, 256), slices.Concat([]byte{0x0f}, bytes.Repeat([]byte{0xf7}, 16))...)
	wantPacked(t, slices.Repeat([]int{16}, 256), slices.Concat([]byte{0x0f}, bytes.Repeat([]byte{0xff}, 16))...)
}

func TestPackOfRowsThatAreTooLong(t *testing.T) { // P6.3
	wantPacked(t, slices.Repeat([]int{4}, 15), 0, 0xe3)
	wantPacked(t, slices.Repeat([]int{4}, 16), 0, 0xf3)
	wantPacked(t, slices.Repeat([]int{4}, 17), 1, 0xf3, 0x03)
	wantPacked(t, slices.Repeat([]int{4}, 31), 1, 0xf3, 0xe3)
	wantPacked(t, slices.Repeat([]int{4}, 32), 1, 0xf3, 0xf3)
	wantPacked(t, slices.Repeat([]int{4}, 33), 2, 0xf3, 0xf3, 0x03)
	l := slices.Concat([]int{7}, slices.Repeat([]int{4}, 17), slices.Repeat([]int{7}, 16))
	wantPacked(t, l, 3, 0x06, 0xf3, 0x03, 0xf6)
}

func TestPackOfAsManyRowsAsMayBe(t *testing.T) { // P6.3
	wantPacked(t, slices.Repeat([]int{1, 16}, 128), slices.Concat([]byte{0xff}, bytes.Repeat([]byte{0x00, 0x0f}, 128))...)
	wantPacked(t, slices.Repeat([]int{9, 2}, 128)[:255],
		slices.Concat([]byte{0xfe}, bytes.Repeat([]byte{0x08, 0x01}, 128)[:255])...)
}

// packedPlainly are lengths as P6.3 has them: symbol by symbol, a new row where the one ahead can't be longer.
func packedPlainly(l []int) []byte {
	var rows []byte
	for s, n := range l {
		last := len(rows) - 1
		if s > 0 && l[s-1] == n && rows[last] < 0xf0 {
			rows[last] += 0x10
		} else {
			rows = append(rows, byte(n-1))
		}
	}
	return slices.Insert(rows, 0, byte(len(rows)-1))
}

func TestWhatIsPackedIsUnpackedAsItWas(t *testing.T) { // P6.3, P6.5
	for l := range lists(1, 2, 9, 16) {
		wantPacked(t, l, packedPlainly(l)...)
	}
	for _, l := range full() {
		wantPacked(t, l, packedPlainly(l)...)
	}
	d := dice(1)
	for n := 1; n <= 256; n++ {
		l := make([]int, n)
		for s := range l {
			l[s] = 1 + d.below(16)
			if s > 0 && d.below(20) > 0 {
				l[s] = l[s-1] // so that there are long rows
			}
		}
		wantPacked(t, l, packedPlainly(l)...)
		wantPacked(t, slices.Repeat([]int{1 + n%16}, n), packedPlainly(slices.Repeat([]int{1 + n%16}, n))...)
	}
}

func TestUnpackOfRowsThatCouldBeLonger(t *testing.T) { // P6.3
	wantUnpacked(t, []byte{2, 0x01, 0x01, 0x11}, []int{2, 2, 2, 2})
	wantUnpacked(t, []byte{1, 0xe3, 0x13}, slices.Repeat([]int{4}, 17))
	wantUnpacked(t, slices.Concat([]byte{0xff}, bytes.Repeat([]byte{0x07}, 256)), slices.Repeat([]int{8}, 256))
}

func TestUnpackOfLengthsThatMakeNoCode(t *testing.T) { // P6.3
	wantUnpacked(t, []byte{0, 0xf0}, slices.Repeat([]int{1}, 16))
	wantUnpacked(t, []byte{0, 0x0f}, []int{16})
}

// wantNoLengths asks for an error, and for how many bits were read.
func wantNoLengths(t *testing.T, r *bitio.Reader, n int, want api.Errno, read int) {
	t.Helper()
	if l, e := Unpack(r, n); l != nil || e != want {
		t.Errorf("%d symbols: %v, error %d; want %d", n, l, e, want)
	}
	if r.Read() != read {
		t.Errorf("%d symbols: read %d bits, want %d", n, r.Read(), read)
	}
}

func TestUnpackOfSoManySymbolsAsMayNotBe(t *testing.T) { // P6.3, R2
	for _, n := range []int{0, -1, 257, 512, math.MinInt, math.MaxInt, 256 + 3, 1<<32 + 3} {
		r := bitio.Open([]byte{2, 0x01, 0x00, 0x01})
		wantNoLengths(t, r, n, api.ErrArg, 0)
		if r.Err() != api.OK || r.Left() != 32 {
			t.Error(n, r.Err(), r.Left())
		}
		wantNoLengths(t, bitio.Open(nil), n, api.ErrArg, 0) // ahead of an end, of another error
		wantNoLengths(t, nil, n, api.ErrArg, 0)
	}
	wantNoLengths(t, bitio.Open(slices.Concat([]byte{16}, bytes.Repeat([]byte{0xf7}, 17))), 272, api.ErrArg, 0)
}

func TestUnpackOfMoreOrFewerSymbols(t *testing.T) { // P6.3
	b, _ := Pack(slices.Repeat([]int{8}, 256))
	for _, n := range []int{1, 16, 240, 255} {
		wantNoLengths(t, bitio.Open(b), n, api.ErrTree, 8*17)
	}
	for _, n := range []int{1, 2, 4, 5, 256} {
		// All rows are read, and nothing behind them; the reader has no error.
		r := bitio.Open([]byte{2, 0x01, 0x00, 0x01, 0x77})
		wantNoLengths(t, r, n, api.ErrTree, 32)
		if r.Err() != api.OK || r.Bits(8) != 0x77 {
			t.Error(n, r.Err())
		}
	}
	most := slices.Concat([]byte{0xff}, bytes.Repeat([]byte{0xf7}, 256))
	wantNoLengths(t, bitio.Open(most), 256, api.ErrTree, 8*257)
	wantNoLengths(t, bitio.Open([]byte{0, 0xf7}), 15, api.ErrTree, 16)
	wantNoLengths(t, bitio.Open([]byte{0, 0xf7}), 17, api.ErrTree, 16)
}

func TestUnpackOfBytesThatEndTooEarly(t *testing.T) { // P6.3
	for _, l := range full() {
		b, _ := Pack(l)
		for cut := range b {
			r := bitio.Open(b[:cut])
			wantNoLengths(t, r, len(l), api.ErrShort, 8*cut)
			if r.Err() != api.ErrShort {
				t.Error(r.Err())
			}
		}
	}
	// A row's bits are there but for one.
	r := bitio.Open([]byte{0, 0x07})
	r.Bit()
	wantNoLengths(t, r, 1, api.ErrShort, 9)
	// There are too many symbols ahead of the end already.
	wantNoLengths(t, bitio.Open([]byte{3, 0xf7, 0xf7}), 16, api.ErrShort, 24)
	// There are just as many ahead of the end.
	wantNoLengths(t, bitio.Open([]byte{1, 0xf7}), 16, api.ErrShort, 16)
}

func TestUnpackOfAReaderWithAnError(t *testing.T) { // P6.3, R1
	for _, n := range []int{1, 16, 256} {
		wantNoLengths(t, spoilt(), n, api.ErrArg, 0)
		wantNoLengths(t, nil, n, api.ErrNil, 0)
		wantNoLengths(t, &bitio.Reader{}, n, api.ErrNil, 0)
		r := bitio.Open([]byte{0})
		r.Bits(9)
		wantNoLengths(t, r, n, api.ErrShort, 0)
	}
}

func TestUnpackOneBehindAnother(t *testing.T) { // P6.3
	r := bitio.Open([]byte{2, 0x01, 0x00, 0x01, 0, 0x10, 0x99})
	if l, e := Unpack(r, 3); e != api.OK || !slices.Equal(l, []int{2, 1, 2}) || r.Read() != 32 {
		t.Error(l, e, r.Read())
	}
	if l, e := Unpack(r, 2); e != api.OK || !slices.Equal(l, []int{1, 1}) || r.Read() != 48 {
		t.Error(l, e, r.Read())
	}
	if x := r.Bits(8); x != 0x99 || r.Err() != api.OK {
		t.Error(x, r.Err())
	}
}

func TestUnpackAmidAByte(t *testing.T) { // P6.3
	w := bitio.New()
	w.Put(5, 3)
	for _, b := range []uint32{2, 0x01, 0x00, 0x01} {
		w.Put(b, 8)
	}
	r := bitio.Open(w.Bytes())
	r.Bits(3)
	if l, e := Unpack(r, 3); e != api.OK || !slices.Equal(l, []int{2, 1, 2}) || r.Read() != 35 {
		t.Error(l, e, r.Read())
	}
}

func mustNew(t *testing.T, l []int) *Decoder {
	t.Helper()
	d, e := New(l)
	if d == nil || e != api.OK {
		t.Fatalf("New of %v: error %d", l, e)
	}
	return d
}

// wantNext asks for a symbol, and that just so many bits were read for it.
func wantNext(t *testing.T, d *Decoder, r *bitio.Reader, symbol, bits int) {
	t.Helper()
	left, read := r.Left(), r.Read()
	if s, e := d.Next(r); s != symbol || e != api.OK {
		t.Errorf("symbol %d, error %d; want %d", s, e, symbol)
	}
	if r.Left() != left-bits || r.Read() != read+bits || r.Err() != api.OK {
		t.Errorf("left %d, read %d, error %d; want %d, %d", r.Left(), r.Read(), r.Err(), left-bits, read+bits)
	}
}

// wantNone asks for an error, and that just so many bits were read ahead of it.
func wantNone(t *testing.T, d *Decoder, r *bitio.Reader, err api.Errno, bits int) {
	t.Helper()
	read := r.Read()
	if s, e := d.Next(r); s != -1 || e != err {
		t.Errorf("symbol %d, error %d; want error %d", s, e, err)
	}
	if r.Read() != read+bits {
		t.Errorf("read %d bits, want %d", r.Read()-read, bits)
	}
}

func TestNext(t *testing.T) { // P6.4
	d := mustNew(t, []int{2, 1, 2})
	r := open("00101100")
	for _, s := range []int{2, 1, 0, 1, 2} {
		wantNext(t, d, r, s, []int{2, 1, 2}[s])
	}
	wantNone(t, d, r, api.ErrShort, 0)
}

func TestNextAtTheEnd(t *testing.T) { // P6.4
	d := mustNew(t, []int{2, 1, 2})
	r := open("10")
	wantNext(t, d, r, 1, 1) // fewer bits are left than the longest word has
	// The bits that are left are read, and then the reader has the error, too.
	wantNone(t, d, r, api.ErrShort, 1)
	if r.Err() != api.ErrShort || r.Left() != 0 {
		t.Error(r.Err(), r.Left())
	}
	wantNone(t, d, r, api.ErrShort, 0)
}

func TestNextAmidAWord(t *testing.T) { // P6.4
	for _, l := range full() {
		d := mustNew(t, l)
		for s, word := range wordsPlainly(l) {
			wantNext(t, d, open(word), s, len(word))
			wantNext(t, d, open(word+"0110"), s, len(word))
			for cut := range len(word) {
				r := open(word[:cut])
				wantNone(t, d, r, api.ErrShort, cut)
				if r.Err() != api.ErrShort {
					t.Error(r.Err())
				}
			}
		}
		if t.Failed() {
			t.Fatal("lengths", l)
		}
	}
}

func TestNextOfAReaderWithAnError(t *testing.T) { // P6.4, R1
	for _, l := range [][]int{{1, 1}, {2, 1, 2}, rising(16)} {
		d := mustNew(t, l)
		wantNone(t, d, spoilt(), api.ErrArg, 0)
		wantNone(t, d, nil, api.ErrNil, 0)
		wantNone(t, d, &bitio.Reader{}, api.ErrNil, 0)
		wantNone(t, d, bitio.Open(nil), api.ErrShort, 0)
		r := bitio.Open([]byte{0})
		r.Bits(9)
		wantNone(t, d, r, api.ErrShort, 0)
	}
}

func TestDecoderThatNewDidNotMake(t *testing.T) { // P6.4, R1
	var none *Decoder
	for _, d := range []*Decoder{none, {}} {
		for _, r := range []*bitio.Reader{bitio.Open([]byte{0, 0}), bitio.Open(nil), spoilt(), nil} {
			was := r.Err()
			wantNone(t, d, r, api.ErrNil, 0)
			if r.Err() != was {
				t.Error(r.Err(), was)
			}
		}
	}
}

func TestNextOfAnyBits(t *testing.T) { // P6.2, P6.4
	for _, l := range full() {
		d, longest := mustNew(t, l), slices.Max(l)
		came := make([]int, len(l))
		for x := range 1 << longest {
			r := bitio.Open([]byte{byte(x), byte(x >> 8)})
			s, e := d.Next(r)
			if s < 0 || s >= len(l) || e != api.OK || r.Read() != l[s] {
				t.Fatalf("%v: %b: symbol %d, error %d, %d bits", l, x, s, e, r.Read())
			}
			came[s]++
		}
		for s, n := range l {
			if came[s] != 1<<(longest-n) {
				t.Errorf("%v: symbol %d came %d times", l, s, came[s])
			}
		}
	}
}

func TestNoWordIsTheBeginningOfAnother(t *testing.T) { // P6.5
	for _, l := range full() {
		codes, e := Codes(l)
		if e != api.OK {
			t.Fatal(l, e)
		}
		var words []string
		for _, c := range codes {
			words = append(words, spell(c))
		}
		// In order, what begins with a word stands right behind it.
		slices.Sort(words)
		for i := 1; i < len(words); i++ {
			if strings.HasPrefix(words[i], words[i-1]) {
				t.Errorf("%v: %s, %s", l, words[i-1], words[i])
			}
		}
	}
}

func TestWhatIsWrittenIsReadByTheDecoder(t *testing.T) { // P6.5
	for i, l := range full() {
		words, _ := Codes(l)
		d, w, thrown := mustNew(t, l), bitio.New(), dice(i)
		var symbols []int
		for s := range l {
			symbols = append(symbols, s)
		}
		for range 300 {
			symbols = append(symbols, thrown.below(len(l)))
		}
		for _, s := range symbols {
			w.Put(words[s].Bits, words[s].Len)
		}
		r := bitio.Open(w.Bytes())
		for _, s := range symbols {
			wantNext(t, d, r, s, l[s])
		}
		if r.Read() != w.Len() {
			t.Error("read", r.Read(), "written", w.Len())
		}
		if t.Failed() {
			t.Fatal("lengths", l)
		}
	}
}

func TestWhatIsHandedInIsNeitherChangedNorKept(t *testing.T) { // R3
	l := []int{2, 1, 2}
	words, _ := Codes(l)
	b, _ := Pack(l)
	d := mustNew(t, l)
	if !slices.Equal(l, []int{2, 1, 2}) {
		t.Fatal("changed:", l)
	}
	l[0], l[1], l[2] = 1, 2, 2
	if spell(words[0]) != "01" || !bytes.Equal(b, []byte{2, 1, 0, 1}) {
		t.Error("kept:", words, b)
	}
	wantNext(t, d, open("01"), 0, 2)
}

func TestAnswersAreNewMemory(t *testing.T) { // R3, R4
	l := []int{2, 1, 2}
	for range 2 {
		words, _ := Codes(l)
		b, _ := Pack(l)
		lengths, e := Unpack(bitio.Open([]byte{2, 1, 0, 1}), 3)
		if e != api.OK || spell(words[0]) != "01" || !bytes.Equal(b, []byte{2, 1, 0, 1}) || !slices.Equal(lengths, l) {
			t.Fatal(words, b, lengths, e)
		}
		words[0], b[0], lengths[0] = api.Code{}, 99, 99
	}
}

func TestDecodersDoNotMeet(t *testing.T) { // R4
	first, second := mustNew(t, []int{2, 1, 2}), mustNew(t, []int{1, 2, 2})
	wantNext(t, first, open("1"), 1, 1)
	wantNext(t, second, open("1"), 0, 1)
	r := open("01010000")
	wantNext(t, first, r, 0, 2)
	wantNext(t, second, r, 1, 2)
	wantNext(t, second, r, 2, 2)
	wantNext(t, first, r, 2, 2)
}
