package canon

import (
	"cmp"
	"iter"
	"math"
	"slices"
	"strings"
	"testing"

	"duffel/api"
	"duffel/bitio"
)

// lists goes through all lists of up to four symbols that have these lengths.
func lists(lengths ...int) iter.Seq[[]int] {
	return func(yield func([]int) bool) {
		for symbols := range 5 {
			many := 1
			for range symbols {
				many *= len(lengths)
			}
			for number := range many {
				l := make([]int, symbols)
				for s := range l {
					l[s] = lengths[number%len(lengths)]
					number /= len(lengths)
				}
				if !yield(l) {
					return
				}
			}
		}
	}
}

// rising has a word of each length up to the greatest, and a second one of that.
func rising(greatest int) []int {
	var l []int
	for n := 1; n <= greatest; n++ {
		l = append(l, n)
	}
	return append(l, greatest)
}

// halved is a full code of so many symbols: of two thirds of the words each becomes two longer ones.
func halved(symbols int) []int {
	l := []int{1, 1}
	for s := 0; len(l) < symbols; s = (s + 1) % len(l) {
		if s%3 != 1 && l[s] < api.MaxCode {
			l[s]++
			l = append(l, l[s])
		}
	}
	return l
}

// fixed are the lengths of Deflate's fixed code (RFC 1951, 3.2.6).
func fixed() []int {
	return slices.Concat(slices.Repeat([]int{8}, 144), slices.Repeat([]int{9}, 112),
		slices.Repeat([]int{7}, 24), slices.Repeat([]int{8}, 8))
}

// long are codes of many symbols, full ones and others.
func long() [][]int {
	return [][]int{
		rising(8), rising(9), rising(10), rising(16), rising(16)[:16], slices.Repeat([]int{12}, 4096),
		slices.Repeat([]int{16}, 4096), fixed(), fixed()[:200], halved(30), halved(300), halved(4096), halved(4000)[7:],
		slices.Concat(make([]int, 4080), rising(15)),
	}
}

// wordsPlainly are the words as P4.2 has them, as texts of noughts and ones, the first bit first.
func wordsPlainly(l []int) []string {
	var order []int
	for s, n := range l {
		if n > 0 {
			order = append(order, s)
		}
	}
	slices.SortStableFunc(order, func(a, b int) int { return cmp.Compare(l[a], l[b]) })
	words := make([]string, len(l))
	for i, s := range order {
		if i > 0 {
			words[s] = plusOne(words[order[i-1]])
		}
		words[s] += strings.Repeat("0", l[s]-len(words[s]))
	}
	return words
}

// plusOne is the number behind a number of which the first bit is the highest; it has as many bits.
func plusOne(word string) string {
	at := strings.LastIndex(word, "0")
	return word[:at] + "1" + strings.Repeat("0", len(word)-at-1)
}

// spell is a word as a text.
func spell(c api.Code) string {
	text := ""
	for i := range c.Len {
		text += string('0' + rune(c.Bits>>i&1))
	}
	return text
}

// open is a reader of which just these bits are left.
func open(text string) *bitio.Reader {
	w := bitio.New()
	ahead := -len(text) & 7
	w.Put(0, ahead)
	for _, bit := range text {
		w.Put(uint32(bit-'0'), 1)
	}
	r := bitio.Open(w.Bytes())
	r.Bits(ahead)
	return r
}

// spoilt is a reader that has an error, and bits that are not told any more.
func spoilt() *bitio.Reader {
	r := bitio.Open([]byte{0, 0, 0})
	r.Bits(-1)
	return r
}

func mustNew(t *testing.T, l []int) *Decoder {
	t.Helper()
	d, e := New(l)
	if d == nil || e != api.OK {
		t.Fatalf("New of %v: error %d", l, e)
	}
	return d
}

// wantNext asks for the next symbol, and that just so many bits were read for it.
func wantNext(t *testing.T, d *Decoder, r *bitio.Reader, symbol, bits int, err api.Errno) {
	t.Helper()
	left, read, was := r.Left(), r.Read(), r.Err()
	s, e := d.Next(r)
	if s != symbol || e != err {
		t.Errorf("symbol %d, error %d; want %d, %d", s, e, symbol, err)
	}
	if r.Left() != left-bits || r.Read() != read+bits || r.Err() != was {
		t.Errorf("left %d, read %d, error %d; want %d, %d, %d",
			r.Left(), r.Read(), r.Err(), left-bits, read+bits, was)
	}
}

func wantCheck(t *testing.T, l []int, want int) {
	t.Helper()
	if got := Check(l); got != want {
		t.Errorf("Check of %d lengths, %v ..: %d, want %d", len(l), l[:min(len(l), 20)], got, want)
	}
}

func TestNumbersOfWhatLengthsAre(t *testing.T) { // P4.1
	if Full != 1 || Over != 2 || Under != 3 || None != 4 || Bad != 5 {
		t.Error(Full, Over, Under, None, Bad)
	}
}

func TestCheck(t *testing.T) { // P4.1
	for _, c := range []struct {
		want int
		l    []int
	}{
		{Full, []int{2, 1, 2}},
		{Full, []int{1, 1}},
		{Full, []int{0, 1, 0, 1, 0}},
		{Full, []int{3, 3, 3, 3, 3, 2, 4, 4}},
		{Over, []int{1, 1, 1}},
		{Over, []int{1, 2, 2, 16}},
		{Over, []int{3, 3, 3, 3, 3, 2, 4, 3}},
		{Under, []int{0, 1}},
		{Under, []int{1}},
		{Under, []int{16}},
		{Under, []int{0, 2, 2}},
		{Under, []int{3, 3, 3, 3, 3, 2, 4, 5}},
	} {
		wantCheck(t, c.l, c.want)
	}
}

func TestCheckWithoutWords(t *testing.T) { // P4.1
	for _, l := range [][]int{nil, {}, {0}, {0, 0, 0}, make([]int, api.MaxSymbols)} {
		wantCheck(t, l, None)
	}
}

func TestCheckOfLengthsThatMayNotBe(t *testing.T) { // P4.1
	for _, n := range []int{-1, 17, 32, 64, -64, math.MinInt, math.MaxInt} {
		wantCheck(t, []int{n}, Bad)
		wantCheck(t, []int{0, 0, n, 0}, Bad)
		wantCheck(t, []int{2, 1, 2, n}, Bad)
		wantCheck(t, []int{n, 1, 1, 1}, Bad)
	}
}

func TestCheckOfTooManyLengths(t *testing.T) { // P4.1
	for n := range api.MaxCode + 1 {
		wantCheck(t, slices.Repeat([]int{n}, api.MaxSymbols+1), Bad)
	}
	wantCheck(t, append([]int{1, 1}, make([]int, api.MaxSymbols-1)...), Bad)
	wantCheck(t, append([]int{1, 1}, make([]int, api.MaxSymbols-2)...), Full)
}

func TestCheckOfAsManyAsMayBe(t *testing.T) { // P4.1
	for n := 1; n <= api.MaxCode; n++ {
		l := slices.Repeat([]int{n}, api.MaxSymbols)
		want := Over
		if n == 12 {
			want = Full
		} else if n > 12 {
			want = Under
		}
		wantCheck(t, l, want)
	}
	l := slices.Repeat([]int{12}, api.MaxSymbols)
	l[4095] = 13
	wantCheck(t, l, Under)
	l[4095] = 11
	wantCheck(t, l, Over)
}

func TestCheckByOneWord(t *testing.T) { // P4.1
	for n := 1; n <= api.MaxCode; n++ {
		wantCheck(t, rising(n), Full)
		wantCheck(t, rising(n)[:n], Under)
		wantCheck(t, append(rising(n), api.MaxCode), Over)
	}
}

func TestCheckInAnyOrder(t *testing.T) { // P4.1
	for _, l := range [][]int{rising(16), rising(16)[:16], append(rising(16), 16)} {
		want := Check(l)
		slices.Reverse(l)
		wantCheck(t, l, want)
	}
}

// checkPlainly adds up what words weigh; a float has each such sum as it is.
func checkPlainly(l []int) int {
	weight := 0.0
	for _, n := range l {
		if n < 0 || n > 16 {
			return 5
		}
		if n > 0 {
			weight += math.Pow(2, -float64(n))
		}
	}
	switch {
	case weight == 0:
		return 4
	case weight < 1:
		return 3
	case weight > 1:
		return 2
	}
	return 1
}

func TestCheckOfManyLists(t *testing.T) { // P4.1
	for l := range lists(-1, 0, 1, 2, 3, 16, 17) {
		wantCheck(t, l, checkPlainly(l))
	}
	for _, l := range long() {
		wantCheck(t, l, checkPlainly(l))
	}
}

// wantWords asks for all words, as texts.
func wantWords(t *testing.T, l []int, want []string) {
	t.Helper()
	words, e := Codes(l)
	if e != api.OK || len(words) != len(want) {
		t.Fatalf("Codes of %v: %d words, error %d", l, len(words), e)
	}
	for s, c := range words {
		// The text has no bits behind the word; these must be noughts.
		if c.Len != l[s] || spell(c) != want[s] || c.Bits>>c.Len != 0 {
			t.Errorf("Codes of %v: symbol %d has %b, %d bits; want %q", l, s, c.Bits, c.Len, want[s])
		}
	}
}

func TestCodes(t *testing.T) { // P4.2
	wantWords(t, []int{2, 1, 2}, []string{"10", "0", "11"})
	wantWords(t, []int{3, 3, 3, 3, 3, 2, 4, 4}, []string{"010", "011", "100", "101", "110", "00", "1110", "1111"})
	wantWords(t, []int{0, 2, 0, 2}, []string{"", "00", "", "01"})
	wantWords(t, []int{5, 0, 2}, []string{"01000", "", "00"})
	wantWords(t, []int{16}, []string{"0000000000000000"})
	wantWords(t, []int{16, 1, 16}, []string{"1000000000000000", "0", "1000000000000001"})
}

func TestCodesHaveTheFirstBitLowest(t *testing.T) { // P4.2
	words, e := Codes([]int{1, 3, 3, 2})
	want := []api.Code{{Bits: 0, Len: 1}, {Bits: 3, Len: 3}, {Bits: 7, Len: 3}, {Bits: 1, Len: 2}}
	if e != api.OK || !slices.Equal(words, want) {
		t.Error(words, e)
	}
}

func TestCodesOfDeflatesFixedCode(t *testing.T) { // P4.2
	words, e := Codes(fixed())
	if e != api.OK || len(words) != 288 {
		t.Fatal(len(words), e)
	}
	for s, want := range map[int]string{
		0: "00110000", 143: "10111111", 144: "110010000", 255: "111111111",
		256: "0000000", 279: "0010111", 280: "11000000", 287: "11000111",
	} {
		if got := spell(words[s]); got != want {
			t.Errorf("symbol %d: %s, want %s", s, got, want)
		}
	}
}

func TestCodesOfManyLists(t *testing.T) { // P4.2
	for l := range lists(0, 1, 2, 3, 9, 16) {
		if Check(l) != Over {
			wantWords(t, l, wordsPlainly(l))
		}
	}
	for _, l := range long() {
		wantWords(t, l, wordsPlainly(l))
	}
}

func TestCodesWithoutWords(t *testing.T) { // P4.2
	for _, n := range []int{0, 1, 5, api.MaxSymbols} {
		words, e := Codes(make([]int, n))
		if e != api.OK || !slices.Equal(words, make([]api.Code, n)) {
			t.Error(words, e)
		}
	}
	if words, e := Codes(nil); e != api.OK || len(words) != 0 {
		t.Error(words, e)
	}
}

func TestLengthsThatMakeNoCode(t *testing.T) { // P4.2, P4.3, R2
	for _, c := range []struct {
		l    []int
		want api.Errno
	}{
		{[]int{-1}, api.ErrArg},
		{[]int{17}, api.ErrArg},
		{[]int{1, 1, math.MaxInt}, api.ErrArg},
		{[]int{math.MinInt, 0}, api.ErrArg},
		{make([]int, api.MaxSymbols+1), api.ErrArg},
		{[]int{1, 1, 1, 17}, api.ErrArg}, // too heavy, too
		{slices.Repeat([]int{1}, api.MaxSymbols+1), api.ErrArg},
		{[]int{1, 1, 1}, api.ErrTree},
		{append(rising(16), 16), api.ErrTree},
		{slices.Repeat([]int{11}, api.MaxSymbols), api.ErrTree},
		{slices.Repeat([]int{1}, api.MaxSymbols), api.ErrTree},
	} {
		if words, e := Codes(c.l); len(words) != 0 || e != c.want {
			t.Errorf("Codes of %v ..: %d words, error %d; want %d", c.l[:1], len(words), e, c.want)
		}
		if d, e := New(c.l); d != nil || e != c.want {
			t.Errorf("New of %v ..: %v, error %d; want %d", c.l[:1], d != nil, e, c.want)
		}
	}
}

func TestLengthsAreNeitherChangedNorKept(t *testing.T) { // R3
	l := []int{2, 1, 2}
	Check(l)
	words, _ := Codes(l)
	d := mustNew(t, l)
	if !slices.Equal(l, []int{2, 1, 2}) {
		t.Fatal("what was handed in is changed:", l)
	}
	l[0], l[1], l[2] = 1, 0, 1
	if got := spell(words[0]); got != "10" {
		t.Error(got)
	}
	wantNext(t, d, open("10"), 0, 2, api.OK)
}

func TestCodesAreNewMemory(t *testing.T) { // R3
	first, _ := Codes([]int{2, 1, 2})
	first[0] = api.Code{}
	wantWords(t, []int{2, 1, 2}, []string{"10", "0", "11"})
}

func TestNext(t *testing.T) { // P4.3
	d := mustNew(t, []int{2, 1, 2})
	r := open("10011100")
	wantNext(t, d, r, 0, 2, api.OK)
	wantNext(t, d, r, 1, 1, api.OK)
	wantNext(t, d, r, 2, 2, api.OK)
	wantNext(t, d, r, 0, 2, api.OK)
	wantNext(t, d, r, 1, 1, api.OK) // fewer bits are left than the longest word has
	wantNext(t, d, r, -1, 0, api.ErrShort)
	wantNext(t, d, r, -1, 0, api.ErrShort)
}

func TestNextWithoutAWord(t *testing.T) { // P4.3
	for _, c := range []struct {
		l    []int
		text string
		want api.Errno
	}{
		{[]int{0, 2, 2}, "10000000", api.ErrCode},
		{[]int{0, 2, 2}, "11", api.ErrCode},
		{[]int{0, 2, 2}, "1", api.ErrShort},
		{[]int{0, 2, 2}, "0", api.ErrShort}, // not 00: behind the end there are no noughts
		{[]int{0, 2, 2}, "", api.ErrShort},
		{[]int{1, 16}, "1100000000000000", api.ErrCode},
		{[]int{1, 16}, "110000000000000", api.ErrShort},
		{[]int{1, 16}, "100000000000000", api.ErrShort},
		{[]int{1, 16}, "1000000000000001", api.ErrCode},
		{[]int{9}, "100000000", api.ErrCode},
		{[]int{9}, "00000000", api.ErrShort},
		{[]int{10}, "0000000001", api.ErrCode},
		{[]int{10}, "000000000", api.ErrShort},
		{[]int{10, 10}, "0000000010", api.ErrCode},
	} {
		wantNext(t, mustNew(t, c.l), open(c.text), -1, 0, c.want)
	}
}

func TestNextGoesOnWhereAWordWasNone(t *testing.T) { // P4.3
	r := open("1010")
	wantNext(t, mustNew(t, []int{2, 2}), r, -1, 0, api.ErrCode)
	wantNext(t, mustNew(t, []int{16}), r, -1, 0, api.ErrShort)
	wantNext(t, mustNew(t, []int{2, 1, 2}), r, 0, 2, api.OK)
	if x := r.Bits(2); x != 1 || r.Err() != api.OK {
		t.Error(x, r.Err())
	}
}

func TestNextOfAReaderWithAnError(t *testing.T) { // P4.3, R2
	for _, l := range [][]int{nil, {0, 0}, {1}, {2, 1, 2}, {0, 2, 2}, rising(16)} {
		d := mustNew(t, l)
		wantNext(t, d, spoilt(), -1, 0, api.ErrArg)
		wantNext(t, d, nil, -1, 0, api.ErrNil)
		wantNext(t, d, &bitio.Reader{}, -1, 0, api.ErrNil)
		r := bitio.Open([]byte{0})
		r.Bits(9)
		wantNext(t, d, r, -1, 0, api.ErrShort)
	}
}

func TestDecoderWithoutWords(t *testing.T) { // P4.3
	for _, l := range [][]int{nil, {}, {0}, make([]int, api.MaxSymbols)} {
		d := mustNew(t, l)
		if n := d.Longest(); n != 0 {
			t.Error(n)
		}
		wantNext(t, d, open("00000000"), -1, 0, api.ErrCode)
		wantNext(t, d, open("1"), -1, 0, api.ErrCode)
		wantNext(t, d, open(""), -1, 0, api.ErrCode) // there are no fewer bits than none
	}
}

func TestDecoderThatNewDidNotMake(t *testing.T) { // P4.3, R1
	var none *Decoder
	for _, d := range []*Decoder{none, {}} {
		if n := d.Longest(); n != 0 {
			t.Error(n)
		}
		wantNext(t, d, open("00000000"), -1, 0, api.ErrNil)
		wantNext(t, d, open(""), -1, 0, api.ErrNil)
		wantNext(t, d, spoilt(), -1, 0, api.ErrNil)
		wantNext(t, d, nil, -1, 0, api.ErrNil)
	}
}

func TestLongest(t *testing.T) { // P4.3
	for n := 1; n <= api.MaxCode; n++ {
		for _, l := range [][]int{{n}, {0, n, 0}, {n, 16}, rising(n), rising(n)[:n]} {
			if got := mustNew(t, l).Longest(); got != slices.Max(l) {
				t.Errorf("%v: %d", l, got)
			}
		}
	}
}

// nextPlainly is what P4.3 asks for, of words as texts: a symbol, how many bits are read, an error.
func nextPlainly(words []string, text string) (int, int, api.Errno) {
	longest := 0
	for s, word := range words {
		if word != "" && strings.HasPrefix(text, word) {
			return s, len(word), api.OK
		}
		longest = max(longest, len(word))
	}
	if len(text) < longest {
		return -1, 0, api.ErrShort
	}
	return -1, 0, api.ErrCode
}

// near goes through a word's beginnings, whole or with the last bit turned, with some bits behind them or none.
func near(word string) iter.Seq[string] {
	return func(yield func(string) bool) {
		for cut := range len(word) + 1 {
			text := word[:cut]
			for _, rest := range []string{"", "0", "1", "1000000", "0000000000000000", "1111111111111111"} {
				if !yield(text + rest) {
					return
				}
				if cut > 0 && !yield(text[:cut-1]+string('0'+'1'-text[cut-1])+rest) {
					return
				}
			}
		}
	}
}

func TestNextOfManyLists(t *testing.T) { // P4.3
	// Words of up to 9 bits are looked up at once.
	for l := range lists(0, 1, 2, 8, 9, 10, 16) {
		if Check(l) == Over {
			continue
		}
		d, words := mustNew(t, l), wordsPlainly(l)
		for _, word := range words {
			for text := range near(word) {
				s, bits, e := nextPlainly(words, text)
				wantNext(t, d, open(text), s, bits, e)
			}
		}
		if t.Failed() {
			t.Fatal("lengths", l)
		}
	}
}

func TestNextOfAnyBits(t *testing.T) { // P4.3
	for l := range lists(0, 1, 2, 3, 4) {
		if Check(l) == Over {
			continue
		}
		d, words := mustNew(t, l), wordsPlainly(l)
		for x := range uint32(1 << 6) {
			for n := range 7 {
				text := spell(api.Code{Bits: x, Len: n})
				s, bits, e := nextPlainly(words, text)
				wantNext(t, d, open(text), s, bits, e)
			}
		}
		if t.Failed() {
			t.Fatal("lengths", l)
		}
	}
}

func TestNoWordIsTheBeginningOfAnother(t *testing.T) { // P4.4
	apart := func(l []int) {
		codes, _ := Codes(l)
		var words []string
		for _, c := range codes {
			if c.Len > 0 {
				words = append(words, spell(c))
			}
		}
		// In order, what begins with a word stands right behind it.
		slices.Sort(words)
		for i := 1; i < len(words); i++ {
			if strings.HasPrefix(words[i], words[i-1]) {
				t.Errorf("%v: %s, %s", l, words[i-1], words[i])
			}
		}
	}
	for l := range lists(0, 1, 2, 3, 9, 16) {
		apart(l)
	}
	for _, l := range long() {
		apart(l)
	}
}

func TestWhatIsWrittenIsReadSymbolBySymbol(t *testing.T) { // P4.4
	again := func(l []int) {
		words, e := Codes(l)
		if e == api.ErrTree {
			return
		}
		var symbols []int
		w := bitio.New()
		// All symbols twice: as they come, and in steps, so that others stand beside one another.
		for i := range 2 * len(l) {
			s := i
			if i >= len(l) {
				s = i * 7 % len(l)
			}
			if words[s].Len > 0 {
				symbols = append(symbols, s)
				w.Put(words[s].Bits, words[s].Len)
			}
		}
		d, r := mustNew(t, l), bitio.Open(w.Bytes())
		for _, s := range symbols {
			wantNext(t, d, r, s, words[s].Len, api.OK)
		}
		if r.Read() != w.Len() {
			t.Error("read", r.Read(), "written", w.Len())
		}
	}
	for l := range lists(0, 1, 2, 3, 9, 16) {
		again(l)
	}
	for _, l := range long() {
		again(l)
	}
}

func TestAFullCodeHasAWordForAllBits(t *testing.T) { // P4.4
	all := func(l []int) {
		if Check(l) != Full {
			return
		}
		d := mustNew(t, l)
		came := make([]int, len(l))
		for x := range uint32(1) << d.Longest() {
			b := []byte{byte(x), byte(x >> 8)}
			s, e := d.Next(bitio.Open(b))
			if s < 0 || s >= len(l) || e != api.OK {
				t.Fatalf("%b: symbol %d, error %d", x, s, e)
			}
			came[s]++
		}
		for s, n := range l {
			if want := 1 << (d.Longest() - n); n > 0 && came[s] != want || n == 0 && came[s] != 0 {
				t.Errorf("symbol %d came %d times", s, came[s])
			}
		}
	}
	for l := range lists(0, 1, 2, 3) {
		all(l)
	}
	for _, l := range long() {
		all(l)
	}
}
