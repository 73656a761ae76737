package inflate

import (
	"bytes"
	"compress/flate"
	"io"
	"math"
	"slices"
	"strings"
	"testing"

	"duffel/api"
	"duffel/bitio"
	"duffel/dyn"
)

// dice is a row of numbers that look thrown, and are the same in every run.
type dice uint64

func (d *dice) below(n int) int {
	*d = *d*6364136223846793005 + 1442695040888963407
	return int(uint64(*d)>>33) % n
}

func (d *dice) bytes(n int) []byte {
	b := make([]byte, n)
	for i := range b {
		b[i] = byte(d.below(256))
	}
	return b
}

func both(f func(large bool)) {
	f(false)
	f(true)
}

// spell answers a number's bits as a text of noughts and ones, the lowest bit first.
func spell(x, n int) string {
	text := make([]byte, n)
	for i := range text {
		text[i] = byte('0' + x>>i&1)
	}
	return string(text)
}

// spelt are the bits of bytes.
func spelt(b []byte) string {
	var text strings.Builder
	for _, c := range b {
		text.WriteString(spell(int(c), 8))
	}
	return text.String()
}

// packed are bytes of bits that are spelt, noughts behind them up to a byte's end.
func packed(bits ...string) []byte {
	all := strings.Join(bits, "")
	b := make([]byte, (len(all)+7)/8)
	for i, bit := range all {
		if bit == '1' {
			b[i/8] |= 1 << (i % 8)
		}
	}
	return b
}

// from is the least number that a code stands for, and how many bits stand behind.
type from struct{ least, bits int }

// lengthTable is the table of RFC 1951, 3.2.5, from code 257 on; large is Deflate64's.
func lengthTable(large bool) []from {
	l := []from{
		{3, 0}, {4, 0}, {5, 0}, {6, 0}, {7, 0}, {8, 0}, {9, 0}, {10, 0},
		{11, 1}, {13, 1}, {15, 1}, {17, 1},
		{19, 2}, {23, 2}, {27, 2}, {31, 2},
		{35, 3}, {43, 3}, {51, 3}, {59, 3},
		{67, 4}, {83, 4}, {99, 4}, {115, 4},
		{131, 5}, {163, 5}, {195, 5}, {227, 5},
		{258, 0},
	}
	if large {
		l[28] = from{3, 16}
	}
	return l
}

// distanceTable is the table of RFC 1951, 3.2.5, and with large the two codes of Deflate64 behind.
func distanceTable(large bool) []from {
	l := []from{
		{1, 0}, {2, 0}, {3, 0}, {4, 0}, {5, 1}, {7, 1}, {9, 2}, {13, 2}, {17, 3}, {25, 3},
		{33, 4}, {49, 4}, {65, 5}, {97, 5}, {129, 6}, {193, 6}, {257, 7}, {385, 7}, {513, 8}, {769, 8},
		{1025, 9}, {1537, 9}, {2049, 10}, {3073, 10}, {4097, 11}, {6145, 11}, {8193, 12}, {12289, 12}, {16385, 13}, {24577, 13},
	}
	if large {
		l = append(l, from{32769, 14}, from{49153, 14})
	}
	return l
}

// thirdOrder is that of P17.4.
var thirdOrder = []int{16, 17, 18, 0, 8, 7, 9, 6, 10, 5, 11, 4, 12, 3, 13, 2, 14, 1, 15}

// thirdLengths are a full code of all 19 symbols.
var thirdLengths = []int{4, 4, 4, 4, 4, 4, 4, 4, 4, 4, 4, 4, 4, 5, 5, 5, 5, 5, 5}

// wordsOf are the words of lengths by the words of P4.2, the first bit first.
func wordsOf(l []int) map[int]string {
	words := map[int]string{}
	word, next := "", false
	for n := 1; n <= 16; n++ {
		for s, k := range l {
			if k != n {
				continue
			}
			if next { // plus 1
				at := strings.LastIndexByte(word, '0')
				word = word[:at] + "1" + strings.Repeat("0", len(word)-at-1)
			}
			word += strings.Repeat("0", n-len(word))
			words[s], next = word, true
		}
	}
	return words
}

// pair is the words of both codes, symbols by words.
type pair struct{ first, second map[int]string }

// fixedPair is the words of RFC 1951, 3.2.6.
func fixedPair() pair {
	p := pair{map[int]string{}, map[int]string{}}
	row := func(words map[int]string, s, n, word, long int) {
		for i := range n {
			words[s+i] = spell(int(bitio.Turn(uint32(word+i), long)), long)
		}
	}
	row(p.first, 0, 144, 0b00110000, 8)
	row(p.first, 144, 112, 0b110010000, 9)
	row(p.first, 256, 24, 0, 7)
	row(p.first, 280, 8, 0b11000000, 8)
	row(p.second, 0, 32, 0, 5)
	return p
}

// piece is a byte, if n is 0, or a copy; by is the code that tells its length, if it is not the usual one.
type piece struct {
	c       byte
	dist, n int
	by      int
}

func lits(text string) []piece {
	var l []piece
	for _, c := range []byte(text) {
		l = append(l, piece{c: c})
	}
	return l
}

// tell tells pieces behind what was told.
func tell(b []byte, l []piece) []byte {
	for _, p := range l {
		if p.n == 0 {
			b = append(b, p.c)
		}
		for range p.n {
			b = append(b, b[len(b)-p.dist])
		}
	}
	return b
}

// lengthCode is the code that P17.2 gives a length.
func lengthCode(n int) int {
	if n >= 258 {
		return 285
	}
	table := lengthTable(false)
	at := 27
	for table[at].least > n {
		at--
	}
	return 257 + at
}

// distanceCode is the code of a distance.
func distanceCode(dist int) int {
	table := distanceTable(true)
	code := 31
	for table[code].least > dist {
		code--
	}
	return code
}

// behind are the bits behind the code of a number.
func behind(x int, of from) string { return spell(x-of.least, of.bits) }

// bits are pieces by words, and the end of the block.
func (p pair) bits(l []piece, large bool) string {
	var text strings.Builder
	for _, x := range l {
		if x.n == 0 {
			text.WriteString(p.first[int(x.c)])
			continue
		}
		by := x.by
		if by == 0 {
			by = lengthCode(x.n)
		}
		d := distanceCode(x.dist)
		text.WriteString(p.first[by] + behind(x.n, lengthTable(large)[by-257]))
		text.WriteString(p.second[d] + behind(x.dist, distanceTable(large)[d]))
	}
	text.WriteString(p.first[256])
	return text.String()
}

// block is a block of a kind: text is for kind 0, lengths of words for kind 2.
type block struct {
	kind      int
	text      string
	l         []piece
	lit, dist []int
}

// spellLists are two lists of lengths, one by one.
func spellLists(lit, dist []int) string {
	text := spell(len(lit)-257, 5) + spell(len(dist)-1, 5) + spell(15, 4)
	for _, s := range thirdOrder {
		text += spell(thirdLengths[s], 3)
	}
	words := wordsOf(thirdLengths)
	for _, n := range slices.Concat(lit, dist) {
		text += words[n]
	}
	return text
}

// headOf are the bits of a block ahead of its words, or of its bytes; ahead is how many bits stand ahead of it.
func (x block) headOf(last bool, ahead int) string {
	text := "0"
	if last {
		text = "1"
	}
	text += spell(x.kind, 2)
	switch x.kind {
	case 0:
		n := len(x.text)
		text += strings.Repeat("0", -(ahead+3)&7) + spell(n, 16) + spell(^n, 16)
	case 2:
		text += spellLists(x.lit, x.dist)
	}
	return text
}

// bodyOf are the bits behind that.
func (x block) bodyOf(large bool) string {
	switch x.kind {
	case 0:
		return spelt([]byte(x.text))
	case 1:
		return fixedPair().bits(x.l, large)
	}
	return pair{wordsOf(x.lit), wordsOf(x.dist)}.bits(x.l, large)
}

// stream are the bits of blocks.
func stream(large bool, l ...block) string {
	var text strings.Builder
	for i, x := range l {
		text.WriteString(x.headOf(i == len(l)-1, text.Len()))
		text.WriteString(x.bodyOf(large))
	}
	return text.String()
}

// toldBy is what blocks tell, and in how many steps by the words of P18.3.
func toldBy(l ...block) ([]byte, int) {
	var b []byte
	steps := 0
	for _, x := range l {
		steps++
		if x.kind == 0 {
			b = append(b, x.text...)
			steps += len(x.text)
			continue
		}
		b = tell(b, x.l)
		steps += len(x.l) + 1
	}
	return b, steps
}

// reading is what is left of bits that are spelt. It stops at the first error by a panic.
type reading struct {
	bits string
	at   int
}

func (r *reading) left() int { return len(r.bits) - r.at }

func (r *reading) number(n int) int {
	if r.left() < n {
		panic(api.ErrShort)
	}
	x := 0
	for i := range n {
		x |= int(r.bits[r.at+i]-'0') << i
	}
	r.at += n
	return x
}

// symbols are a code as it is read: symbols by words, and how many bits the longest one has.
type symbols struct {
	by      map[string]int
	longest int
}

func symbolsOf(words map[int]string) symbols {
	c := symbols{by: map[string]int{}}
	for s, word := range words {
		c.by[word] = s
		c.longest = max(c.longest, len(word))
	}
	return c
}

func (r *reading) word(c symbols) int {
	for n := range min(c.longest, r.left()) + 1 {
		if s, there := c.by[r.bits[r.at:r.at+n]]; there {
			r.at += n
			return s
		}
	}
	if r.left() < c.longest {
		panic(api.ErrShort)
	}
	panic(api.ErrCode)
}

// weigh answers the weight of words, counted in such of 15 bits, and how many words there are.
func weigh(l []int) (weight, words int) {
	for _, n := range l {
		if n > 0 {
			weight += 1 << (15 - n)
			words++
		}
	}
	return weight, words
}

// right is P17.3 by its words.
func right(lit, dist []int) bool {
	full := func(l []int) bool {
		weight, words := weigh(l)
		return weight == 1<<15 || words == 1 && weight == 1<<14
	}
	_, words := weigh(dist)
	return lit[256] > 0 && full(lit) && (full(dist) || words == 0)
}

// lists is P17.4 by its words.
func (r *reading) lists(large bool) ([]int, []int) {
	n, k, there := 257+r.number(5), 1+r.number(5), 4+r.number(4)
	if n > 286 || k > len(distanceTable(large)) {
		panic(api.ErrForm)
	}
	third := make([]int, 19)
	for _, s := range thirdOrder[:there] {
		third[s] = r.number(3)
	}
	if weight, _ := weigh(third); weight != 1<<15 {
		panic(api.ErrTree)
	}
	c := symbolsOf(wordsOf(third))
	var all []int
	for len(all) < n+k {
		switch s := r.word(c); s {
		default:
			all = append(all, s)
		case 16:
			times := 3 + r.number(2)
			if len(all) == 0 {
				panic(api.ErrCode)
			}
			all = append(all, slices.Repeat(all[len(all)-1:], times)...)
		case 17:
			all = append(all, make([]int, 3+r.number(3))...)
		case 18:
			all = append(all, make([]int, 11+r.number(7))...)
		}
		if len(all) > n+k {
			panic(api.ErrForm)
		}
	}
	if !right(all[:n], all[n:]) {
		panic(api.ErrTree)
	}
	return all[:n], all[n:]
}

// telling is a reading, and what it told.
type telling struct {
	reading
	large bool
	size  int
	told  []byte
	steps int
}

func (x *telling) lit(c int) {
	if len(x.told) == x.size {
		panic(api.ErrSize)
	}
	x.told = append(x.told, byte(c))
}

// knownFirst and knownSecond are the fixed codes, made once.
var knownFirst, knownSecond = symbolsOf(fixedPair().first), symbolsOf(fixedPair().second)

// block reads a block, and tells whether it is the last one.
func (x *telling) block() bool {
	last := x.number(1) == 1
	kind := x.number(2)
	x.steps++
	switch kind {
	case 0:
		x.at = (x.at + 7) / 8 * 8
		n, turned := x.number(16), x.number(16)
		if n+turned != 65535 {
			panic(api.ErrForm)
		}
		for range n {
			c := x.number(8)
			x.steps++
			x.lit(c)
		}
	case 1:
		x.words(knownFirst, knownSecond)
	case 2:
		lit, dist := x.lists(x.large)
		x.words(symbolsOf(wordsOf(lit)), symbolsOf(wordsOf(dist)))
	case 3:
		panic(api.ErrForm)
	}
	return last
}

func (x *telling) words(first, second symbols) {
	for {
		s := x.word(first)
		x.steps++
		if s == 256 {
			return
		}
		if s < 256 {
			x.lit(s)
			continue
		}
		lengths, distances := lengthTable(x.large), distanceTable(x.large)
		if s-257 >= len(lengths) {
			panic(api.ErrCode)
		}
		n := lengths[s-257].least + x.number(lengths[s-257].bits)
		d := x.word(second)
		if d >= len(distances) {
			panic(api.ErrCode)
		}
		back := distances[d].least + x.number(distances[d].bits)
		if back > len(x.told) {
			panic(api.ErrDist)
		}
		if n > x.size-len(x.told) {
			panic(api.ErrSize)
		}
		x.told = tell(x.told, []piece{{dist: back, n: n}})
	}
}

// plainDecode is P18.2 and P18.3 by their words.
func plainDecode(b []byte, large bool, size int) (told []byte, steps int, e api.Errno) {
	if size < 0 {
		return nil, 0, api.ErrArg
	}
	x := &telling{reading: reading{bits: spelt(b)}, large: large, size: size}
	defer func() {
		if y := recover(); y != nil {
			told, steps, e = nil, 0, y.(api.Errno)
		}
	}()
	for !x.block() {
	}
	if len(x.told) < size {
		return nil, 0, api.ErrSize
	}
	if x.left() >= 8 {
		return nil, 0, api.ErrRest
	}
	return x.told, x.steps, api.OK
}

// want asks what is decoded.
func want(t *testing.T, b []byte, large bool, size int, told []byte, steps int, e api.Errno) {
	t.Helper()
	kept := slices.Clone(b)
	got, n, err := Decode(b, large, size)
	if !bytes.Equal(got, told) || n != steps || err != e {
		t.Fatalf("%d bytes %.40x, large %v, for %d: %.60q, %d, %d; want %.60q, %d, %d", len(b), b, large, size, got, n, err, told, steps, e)
	}
	if !bytes.Equal(b, kept) {
		t.Fatal("changed")
	}
	if err != api.OK && got != nil {
		t.Fatalf("%d, and %v", err, got)
	}
	if n > 8*len(b) { // P18.4
		t.Fatal(n, "steps of", len(b), "bytes")
	}
}

// wantError asks for an error, and for nothing beside it.
func wantError(t *testing.T, b []byte, large bool, size int, e api.Errno) {
	t.Helper()
	want(t, b, large, size, nil, 0, e)
}

// wantBlocks asks for what blocks tell.
func wantBlocks(t *testing.T, large bool, l ...block) {
	t.Helper()
	told, steps := toldBy(l...)
	want(t, packed(stream(large, l...)), large, len(told), told, steps, api.OK)
}

// wantPlain asks for what the plain reader tells.
func wantPlain(t *testing.T, b []byte, large bool, size int) api.Errno {
	t.Helper()
	told, steps, e := plainDecode(b, large, size)
	want(t, b, large, size, told, steps, e)
	return e
}

// P18.1
func TestFixed(t *testing.T) {
	lit, dist := Fixed()
	if len(lit) != 288 || len(dist) != 32 {
		t.Fatal(len(lit), len(dist))
	}
	for s, n := range lit {
		want := 8
		switch {
		case s >= 144 && s <= 255:
			want = 9
		case s >= 256 && s <= 279:
			want = 7
		}
		if n != want {
			t.Error(s, n)
		}
	}
	for s, n := range dist {
		if n != 5 {
			t.Error(s, n)
		}
	}
}

// P18.1, R3: the lists are new each time.
func TestFixedIsNewMemory(t *testing.T) {
	lit, dist := Fixed()
	clear(lit)
	clear(dist)
	_, _ = append(lit, 1), append(dist, 1)
	TestFixed(t)
	want(t, []byte{0x4b, 4, 0}, false, 1, []byte("a"), 3, api.OK)
}

// P18.1: their words are those of RFC 1951.
func TestFixedWords(t *testing.T) {
	lit, dist := Fixed()
	known := fixedPair()
	for i, l := range [][]int{lit, dist} {
		words := []map[int]string{known.first, known.second}[i]
		for s, word := range wordsOf(l) {
			if words[s] != word {
				t.Error(s, word, words[s])
			}
		}
	}
}

// P18.2: of a size below 0, whatever the bytes are.
func TestDecodeTakesSizes(t *testing.T) {
	both(func(large bool) {
		for _, b := range [][]byte{nil, {}, {3, 0}, {7}, {255}, {0x4b, 4, 0}, {3, 0, 0}} {
			for _, size := range []int{-1, -2, -65536, math.MinInt32, math.MinInt} {
				wantError(t, b, large, size, api.ErrArg)
			}
		}
	})
}

// P18.2, P18.3: bits that are spelt by hand.
func TestDecodeByHand(t *testing.T) {
	const a, b, c = "10010001", "10010010", "10010011"
	for _, x := range []struct {
		bits  []string
		text  string
		steps int
	}{
		{[]string{"110", "0000000"}, "", 2},
		{[]string{"110", a, "0000000"}, "a", 3},
		{[]string{"110", a, "0000001", "00000", "0000000"}, "aaaa", 4},                   // 257: 3 bytes
		{[]string{"110", a, b, "0001000", "00001", "0000000"}, "abababababab", 5},        // 264: 10 bytes, 2 back
		{[]string{"110", a, b, "0001001", "1", "00001", "0000000"}, "ababababababab", 5}, // 265, 1: 12 bytes
		{[]string{"110", a, b, c, "0000010", "00010", "0000000"}, "abcabca", 6},          // 258: 4 bytes, 3 back
		{[]string{"110", "110010000", "111111111", "00110000", "10111111", "0000000"}, "\x90\xff\x00\x8f", 6},
		{[]string{"110", a, b, c, a, b, c, "0000001", "00100", "1", "0000000"}, "abcabcabc", 9}, // 4, 1: 6 back
		{[]string{"010", a, "0000000", "110", b, "0000000"}, "ab", 6},
		{[]string{"010", a, b, "0000000", "110", "0000001", "00001", "0000000"}, "ababa", 7}, // out of the block ahead
		{[]string{"000", "00000", "0000000000000000", "1111111111111111", "110", "0000000"}, "", 3},
		{[]string{"100", "00000", "1000000000000000", "0111111111111111", spelt([]byte("x"))}, "x", 2},
		{[]string{"100", "10110", "1000000000000000", "0111111111111111", spelt([]byte("x"))}, "x", 2}, // bits gone over
		{[]string{"000", "11111", "0100000000000000", "1011111111111111", spelt([]byte("xy")), "110", "0000010", "00001", "0000000"}, "xyxyxy", 6},
		{[]string{"010", a, "0000000", "100", "000", "1000000000000000", "0111111111111111", spelt([]byte("x"))}, "ax", 5},
	} {
		both(func(large bool) {
			want(t, packed(x.bits...), large, len(x.text), []byte(x.text), x.steps, api.OK)
			if e := wantPlain(t, packed(x.bits...), large, len(x.text)); e != api.OK {
				t.Error(e)
			}
		})
	}
}

// P18.2: codes of a block's own, spelt by hand. Third code: 0: 00, 1: 01, 2: 10, 18: 11.
func TestDecodeOwnByHand(t *testing.T) {
	thirds := ""
	for _, s := range thirdOrder[:18] {
		thirds += spell(map[int]int{0: 2, 1: 2, 2: 2, 18: 2}[s], 3)
	}
	noughts := func(n int) string { return "11" + spell(n-11, 7) }
	// a: 0, 256: 10, 257: 11; distances 0: 0.
	head := "101" + spell(1, 5) + spell(0, 5) + spell(14, 4) + thirds +
		noughts(97) + "01" + noughts(138) + noughts(20) + "10" + "10" + "01"
	both(func(large bool) {
		want(t, packed(head, "10"), large, 0, nil, 2, api.OK)
		want(t, packed(head, "0", "0", "10"), large, 2, []byte("aa"), 4, api.OK)
		want(t, packed(head, "0", "11", "0", "10"), large, 4, []byte("aaaa"), 4, api.OK)
		want(t, packed(head, "0", "11", "0", "11", "0", "10"), large, 7, []byte("aaaaaaa"), 5, api.OK)
		wantError(t, packed(head, "0", "11", "1", "10"), large, 4, api.ErrCode) // the one distance's word is 0
		wantError(t, packed(head, "11", "0", "10"), large, 3, api.ErrDist)
	})
	// 256 alone, of one bit; no distances.
	head = "101" + spell(0, 5) + spell(0, 5) + spell(14, 4) + thirds +
		noughts(138) + noughts(118) + "01" + "00"
	both(func(large bool) {
		want(t, packed(head, "0"), large, 0, nil, 2, api.OK)
		wantError(t, packed(head, "1", "00000000"), large, 0, api.ErrCode)
	})
	// 256: 0, 257: 1, but no distances.
	head = "101" + spell(1, 5) + spell(0, 5) + spell(14, 4) + thirds +
		noughts(138) + noughts(118) + "01" + "01" + "00"
	both(func(large bool) {
		want(t, packed(head, "0"), large, 0, nil, 2, api.OK)
		wantError(t, packed(head, "1", "0", "0"), large, 3, api.ErrCode)
	})
}

// P18.2: of bytes that end, of two kinds and of the third.
func TestDecodeFirstBits(t *testing.T) {
	both(func(large bool) {
		for size := range 3 {
			wantError(t, nil, large, size, api.ErrShort)
			wantError(t, []byte{}, large, size, api.ErrShort)
			for c := range 256 {
				e := wantPlain(t, []byte{byte(c)}, large, size)
				if kind := c >> 1 & 3; kind == 3 && e != api.ErrForm || kind != 3 && e != api.ErrShort {
					t.Fatal(c, e)
				}
				for d := size; d < 256; d += 3 {
					wantPlain(t, []byte{byte(c), byte(d)}, large, size)
				}
			}
		}
	})
}

// P18.2: a block of kind 3, the last one or not, wherever it stands, whatever stands behind.
func TestDecodeKind3(t *testing.T) {
	both(func(large bool) {
		ahead := []block{{kind: 1, l: lits("ab")}, {kind: 0, text: "cd"}}
		for i := range 3 {
			text := ""
			for j := range i {
				text += ahead[j].headOf(false, len(text)) + ahead[j].bodyOf(large)
			}
			for _, last := range []string{"0", "1"} {
				for size := 2 * i; size < 6; size++ {
					wantError(t, packed(text, last, "11"), large, size, api.ErrForm)
					wantError(t, packed(text, last, "11", spelt(make([]byte, 20))), large, size, api.ErrForm)
					wantError(t, packed(text, last, "11", stream(large, ahead...)), large, size, api.ErrForm)
				}
			}
		}
	})
}

// full is a full code of n words, as equal in length as may be.
func full(n int) []int {
	l := []int{0}
	for len(l) < n {
		at := slices.Index(l, slices.Min(l))
		l[at]++
		l = append(l, l[at])
	}
	return l
}

// deep is a full code that has words of one bit and of 15, the longest ones ahead.
func deep(n int) []int {
	l := []int{15, 15, 14, 13, 12, 11, 10, 9, 8, 7, 6, 5, 4, 3, 2, 1}
	for k := 5; len(l) < n; {
		at := slices.Index(l, k) // the shortest one, but for four that stay
		if at < 0 {
			k++
			continue
		}
		l[at]++
		l = slices.Insert(l, at, l[at])
	}
	return l
}

// owns are pairs of lengths of words that have all symbols.
func owns(large bool) [][2][]int {
	k := len(distanceTable(large))
	backward := deep(286)
	slices.Reverse(backward)
	all := [][2][]int{{full(286), full(k)}, {deep(286), deep(k)}, {backward, deep(k)}}
	return all
}

// kinds are pieces as a block of words of each sort.
func kinds(large bool, l []piece) []block {
	all := []block{{kind: 1, l: l}}
	for _, x := range owns(large) {
		all = append(all, block{kind: 2, l: l, lit: x[0], dist: x[1]})
	}
	return all
}

// P18.2: all bytes, by all kinds.
func TestEveryByte(t *testing.T) {
	d := dice(181)
	both(func(large bool) {
		for c := range 256 {
			wantBlocks(t, large, block{kind: 0, text: string([]byte{byte(c)})})
			for _, x := range kinds(large, lits(string([]byte{byte(c)}))) {
				wantBlocks(t, large, x)
			}
		}
		text := string(d.bytes(2000))
		wantBlocks(t, large, block{kind: 0, text: text})
		for _, x := range kinds(large, lits(text)) {
			wantBlocks(t, large, x)
		}
	})
}

// P18.2: all lengths of Deflate, and such of Deflate64.
func TestEveryLength(t *testing.T) {
	both(func(large bool) {
		lengths := make([]int, 0, 300)
		for n := 3; n <= 258; n++ {
			lengths = append(lengths, n)
		}
		if large {
			lengths = append(lengths, 259, 260, 511, 512, 32767, 32768, 32769, 65535, 65536, 65537, 65538)
		}
		for _, n := range lengths {
			for _, x := range kinds(large, append(lits("abc"), piece{dist: 3, n: n}, piece{c: 'd'})) {
				wantBlocks(t, large, x)
			}
		}
	})
}

// P18.2: 258 is also 31 behind 284; with large 285 is any length from 3 on.
func TestOtherCodesOfLengths(t *testing.T) {
	for _, x := range kinds(false, append(lits("ab"), piece{dist: 2, n: 258, by: 284}, piece{dist: 2, n: 258, by: 285})) {
		wantBlocks(t, false, x)
	}
	for n := 3; n < 270; n++ {
		for _, x := range kinds(true, append(lits("ab"), piece{dist: 2, n: n, by: 285})) {
			wantBlocks(t, true, x)
		}
	}
	for _, x := range kinds(true, append(lits("ab"), piece{dist: 2, n: 258, by: 284})) {
		wantBlocks(t, true, x)
	}
}

// P18.2: all distances, up to the greatest, in a text by which each is known.
func TestEveryDistance(t *testing.T) {
	d := dice(182)
	both(func(large bool) {
		window := 32768
		if large {
			window = 65536
		}
		ahead := block{kind: 0, text: string(d.bytes(65535))}
		l := lits(string(d.bytes(1)))
		for dist := 1; dist <= window; dist++ {
			l = append(l, piece{dist: dist, n: 3 + dist%5})
		}
		for _, x := range kinds(large, l) {
			wantBlocks(t, large, ahead, x)
		}
	})
}

// P18.2: 30 and 31 are no distances, but with large they are.
func TestNoDistance(t *testing.T) {
	d := dice(183)
	known := fixedPair()
	ahead := block{kind: 0, text: string(d.bytes(65535))}
	text := ahead.headOf(false, 0) + ahead.bodyOf(false)
	for s := 30; s < 32; s++ {
		for _, rest := range []int{0, 1, 1<<14 - 1} {
			b := packed(text, "110", known.first[257], known.second[s], spell(rest, 14), known.first[256])
			dist := 32769 + (s-30)<<14 + rest
			if dist == 65536 {
				wantError(t, b, true, 65538, api.ErrDist) // one more than was told
			} else {
				want(t, b, true, 65538, tell([]byte(ahead.text), []piece{{dist: dist, n: 3}}), 65538+1, api.OK)
			}
			wantError(t, b, false, 65538, api.ErrCode)
			wantError(t, b, false, 65535, api.ErrCode) // ahead of ErrSize
			wantError(t, packed(text, "110", known.first[257], known.second[s]), false, 65538, api.ErrCode)
		}
		// No bits need be there behind a code that there is not.
		wantError(t, packed("110", known.first[257], known.second[s]), false, 3, api.ErrCode)
		wantError(t, packed("110", known.first[257], known.second[s]), true, 3, api.ErrShort)
	}
}

// P18.2: 286 and 287 are no lengths.
func TestNoLength(t *testing.T) {
	known := fixedPair()
	both(func(large bool) {
		for s := 286; s < 288; s++ {
			for size := 1; size < 5; size++ {
				wantError(t, packed("110", known.first['a'], known.first[s]), large, size, api.ErrCode)
				wantError(t, packed("110", known.first['a'], known.first[s], spelt(make([]byte, 9))), large, size, api.ErrCode)
			}
			wantError(t, packed("110", known.first[s]), large, 0, api.ErrCode)
		}
	})
}

// P18.2: a distance behind which nothing stands, ahead of a copy that has no room.
func TestDecodeTooFar(t *testing.T) {
	both(func(large bool) {
		for told := range 70 {
			l := lits(strings.Repeat("ab", 40)[:told])
			for _, n := range []int{3, 100} {
				for _, x := range kinds(large, append(slices.Clone(l), piece{dist: told + 1, n: n})) {
					b := packed(stream(large, x))
					for _, size := range []int{told, told + 1, told + n - 1, told + n, 1000} {
						wantError(t, b, large, size, api.ErrDist)
					}
				}
			}
			if told > 0 {
				for _, x := range kinds(large, append(l, piece{dist: told, n: 5})) {
					wantBlocks(t, large, x)
				}
			}
		}
		for _, dist := range []int{1, 2, 100, 32768} {
			wantError(t, packed(stream(large, block{kind: 1, l: []piece{{dist: dist, n: 3}}})), large, 3, api.ErrDist)
		}
	})
}

// P18.2: blocks of bytes as they are, of all lengths that matter, behind any bit.
func TestPlainBlocks(t *testing.T) {
	d := dice(184)
	both(func(large bool) {
		for _, n := range []int{0, 1, 2, 3, 255, 256, 257, 32767, 32768, 65534, 65535} {
			text := string(d.bytes(n))
			wantBlocks(t, large, block{kind: 0, text: text})
			wantBlocks(t, large, block{kind: 0, text: text}, block{kind: 1, l: lits("x")})
			wantBlocks(t, large, block{kind: 0, text: text}, block{kind: 0, text: text}, block{kind: 0})
		}
		for nines := range 9 { // as many words of nine bits ahead
			ahead := block{kind: 1, l: lits(strings.Repeat("\xee", nines))}
			wantBlocks(t, large, ahead, block{kind: 0, text: "plain"}, block{kind: 1, l: []piece{{dist: 5, n: 9}}})
		}
	})
}

// P18.2: the bits up to the next byte may be any.
func TestPlainBitsGoneOver(t *testing.T) {
	both(func(large bool) {
		for x := range 32 {
			b := packed("100", spell(x, 5), spell(2, 16), spell(^2, 16), spelt([]byte("hi")))
			want(t, b, large, 2, []byte("hi"), 3, api.OK)
		}
	})
}

// P18.2: two bytes that are not the complement of two others, whatever stands behind.
func TestPlainComplement(t *testing.T) {
	both(func(large bool) {
		for _, n := range []int{0, 1, 2, 255, 256, 0x1234, 65535} {
			for bit := range 16 {
				b := packed("100", "00000", spell(n, 16), spell(^n^1<<bit, 16))
				for _, size := range []int{0, 1, n, 1 << 20} {
					wantError(t, b, large, size, api.ErrForm)
					wantError(t, append(b, make([]byte, 300)...), large, size, api.ErrForm)
				}
				wantError(t, b[:4], large, n, api.ErrShort)
			}
			wantError(t, packed("100", "00000", spell(n, 16), spell(n, 16)), large, n, api.ErrForm)
		}
	})
}

// P18.2: of bytes that are told one by one the first that is not there, or that has no room, is the error.
func TestPlainOneByOne(t *testing.T) {
	both(func(large bool) {
		for there := range 6 {
			for said := range 8 {
				b := packed("100", "00000", spell(said, 16), spell(^said, 16), spelt([]byte("abcdef")[:there]))
				for size := range 9 {
					e := api.OK
					switch {
					case size < min(there, said):
						e = api.ErrSize
					case there < said:
						e = api.ErrShort
					case size > said:
						e = api.ErrSize
					case there > said:
						e = api.ErrRest
					}
					if got := wantPlain(t, b, large, size); got != e {
						t.Fatal(there, said, size, got, e)
					}
				}
			}
		}
	})
}

// cut are the first n bits of a block's, with words of nine bits ahead so that they end where a byte does; and how
// many such words these are.
func cut(bits string, n int) ([]byte, int) {
	nines := 0
	for (3+9*nines+7+n)%8 != 0 {
		nines++
	}
	ahead := block{kind: 1, l: lits(strings.Repeat("\xf0", nines))}
	return packed(ahead.headOf(false, 0), ahead.bodyOf(false), bits[:n]), nines
}

// P18.2: bits that end, wherever they do.
func TestDecodeCut(t *testing.T) {
	d := dice(185)
	l := append(lits("ab\xc8"), piece{dist: 2, n: 5}, piece{dist: 1, n: 70}, piece{dist: 33, n: 258}, piece{c: 255})
	both(func(large bool) {
		for _, x := range kinds(large, l) {
			bits := stream(large, x)
			told, _ := toldBy(x)
			for n := range bits {
				if x.kind == 2 && n > 200 && n < len(x.headOf(true, 0)) && d.below(20) > 0 {
					continue
				}
				b, ahead := cut(bits, n)
				wantError(t, b, large, ahead+len(told), api.ErrShort)
				wantPlain(t, b, large, d.below(ahead+len(told)))
				// The bits behind the byte's beginning are any.
				b = append(slices.Clone(b), byte(d.below(256)))
				wantPlain(t, b, large, ahead+len(told))
			}
			b, ahead := cut(bits, len(bits))
			if e := wantPlain(t, b, large, ahead+len(told)); e != api.OK {
				t.Fatal(e)
			}
		}
	})
}

// P18.2: the reader's error ahead of all that its bits would say: of a copy's bits that end it is ErrShort, not
// ErrDist or ErrSize.
func TestDecodeShortCopies(t *testing.T) {
	both(func(large bool) {
		for _, x := range []piece{{dist: 300, n: 4}, {dist: 24577, n: 20}, {dist: 9, n: 200}} {
			bits := "010" + fixedPair().bits([]piece{x}, large)
			bits = bits[:len(bits)-7] // without the end
			for n := 4; n < len(bits); n++ {
				b, ahead := cut(bits, n)
				for size := ahead; size < ahead+5; size++ {
					wantError(t, b, large, size, api.ErrShort)
				}
			}
			b, ahead := cut(bits, len(bits))
			wantError(t, b, large, ahead, api.ErrDist)
		}
	})
}

// P18.2: more bytes than were said, whatever stands behind.
func TestDecodeTooMuch(t *testing.T) {
	both(func(large bool) {
		l := append(lits("abc"), piece{dist: 3, n: 40}, piece{c: 'z'}, piece{dist: 1, n: 3})
		for _, x := range append(kinds(large, l), block{kind: 0, text: string(tell(nil, l))}) {
			bits := stream(large, x)
			told, _ := toldBy(x)
			for size := range told {
				wantError(t, packed(bits), large, size, api.ErrSize)
				wantError(t, append(packed(bits), make([]byte, 50)...), large, size, api.ErrSize)
			}
			wantBlocks(t, large, x)
		}
		// Nothing behind the copy that has no room is read: not even the block's end is there.
		bits := "110" + fixedPair().bits([]piece{{c: 'a'}, {dist: 1, n: 3}}, large)
		for size := range 4 {
			wantError(t, packed(bits[:len(bits)-7]), large, size, api.ErrSize)
		}
		wantError(t, packed(bits[:len(bits)-7], "1"), large, 4, api.ErrShort)
	})
}

// P18.3: fewer bytes than were said, also where something is left.
func TestDecodeTooLittle(t *testing.T) {
	both(func(large bool) {
		for _, x := range append(kinds(large, append(lits("ab"), piece{dist: 1, n: 9})), block{kind: 0, text: "abbbbbbbbbb"}) {
			b := packed(stream(large, x))
			for _, size := range []int{12, 13, 1000, math.MaxInt32, math.MaxInt} {
				wantError(t, b, large, size, api.ErrSize)
				wantError(t, append(b, 1, 2, 3), large, size, api.ErrSize)
			}
		}
		wantError(t, []byte{3, 0}, large, 1, api.ErrSize)
		wantError(t, []byte{3, 0, 0}, large, 1, api.ErrSize)
	})
}

// P18.3: seven bits may be left, whatever they are; eight may not.
func TestDecodeRest(t *testing.T) {
	both(func(large bool) {
		left := map[int]bool{}
		for nines := range 12 {
			l := lits(strings.Repeat("\xf0", nines))
			told, steps := toldBy(block{kind: 1, l: l})
			bits := stream(large, block{kind: 1, l: l})
			left[-len(bits)&7] = true
			for extra := range 30 {
				for _, bit := range []string{"0", "1"} {
					b := packed(bits, strings.Repeat(bit, extra))
					if extra <= -len(bits)&7 {
						want(t, b, large, nines, told, steps, api.OK)
					} else {
						wantError(t, b, large, nines, api.ErrRest)
					}
				}
			}
		}
		if len(left) != 8 {
			t.Fatal(left)
		}
	})
}

// P18.2, P18.3: a block behind the last one is not read.
func TestDecodeLastBlock(t *testing.T) {
	both(func(large bool) {
		one := block{kind: 1, l: lits("one")}
		plain := block{kind: 0, text: "two"}
		for _, x := range []block{one, plain} {
			for _, y := range []string{"111", stream(large, one), stream(large, plain), spelt(make([]byte, 9))} {
				bits := stream(large, x)
				wantError(t, packed(bits, y, "00000000"), large, 3, api.ErrRest)
				wantError(t, packed(bits, y, "00000000"), large, 6, api.ErrSize)
			}
		}
		// Behind blocks of which none is the last one there must be another.
		for _, x := range []block{one, plain} {
			wantError(t, packed(x.headOf(false, 0), x.bodyOf(large)), large, 3, api.ErrShort)
		}
	})
}

// P18.3: one step of each block, of each word of a first code, of each byte of a block of kind 0.
func TestSteps(t *testing.T) {
	both(func(large bool) {
		for _, n := range []int{0, 1, 2, 100, 1000} {
			for kind := range 2 {
				l := slices.Repeat([]block{{kind: kind}}, n+1)
				want(t, packed(stream(large, l...)), large, 0, nil, (n+1)*(kind+1), api.OK)
			}
			text := bytes.Repeat([]byte("x"), n)
			want(t, packed(stream(large, block{kind: 0, text: string(text)})), large, n, text, n+1, api.OK)
			want(t, packed(stream(large, block{kind: 1, l: lits(string(text))})), large, n, text, n+2, api.OK)
			copies := append(lits("x"), slices.Repeat([]piece{{dist: 1, n: 258}}, n)...)
			want(t, packed(stream(large, block{kind: 1, l: copies})), large, 1+258*n, bytes.Repeat([]byte("x"), 1+258*n), n+3, api.OK)
		}
	})
}

// P18.4: a word of one bit is a step, and so is a byte's eight; no stream has more than one a bit.
func TestStepsOfBits(t *testing.T) {
	both(func(large bool) {
		lit := make([]int, 257)
		lit['a'], lit[256] = 1, 1 // a: 0, 256: 1
		for n := range 100 {
			l := lits(strings.Repeat("a", n))
			wantBlocks(t, large, block{kind: 2, l: l, lit: lit, dist: []int{0}})
			wantBlocks(t, large, block{kind: 2, l: l, lit: lit, dist: []int{1}})
		}
	})
}

// P18.4: what has no code of Deflate64 alone is read as well with large.
func TestLargeReadsTheSame(t *testing.T) {
	d := dice(186)
	for range 300 {
		var l []block
		for range 1 + d.below(4) {
			x := d.block(false, told(l))
			for slices.ContainsFunc(x.l, func(p piece) bool { return p.by == 285 }) {
				x = d.block(false, told(l))
			}
			l = append(l, x)
		}
		b := packed(stream(false, l...))
		all, steps := toldBy(l...)
		both(func(large bool) { want(t, b, large, len(all), all, steps, api.OK) })
	}
}

// told is how many bytes blocks tell.
func told(l []block) int {
	b, _ := toldBy(l...)
	return len(b)
}

// code is a list of n lengths of which so many have words: a full code, or one word of one bit.
func (d *dice) code(n, words int) []int {
	given := []int{0}
	for len(given) < words {
		at := d.below(len(given))
		if given[at] == 15 {
			at = slices.Index(given, slices.Min(given))
		}
		given[at]++
		given = append(given, given[at])
	}
	if words == 1 {
		given[0] = 1
	}
	l := make([]int, n)
	at := 0
	for s := range l {
		if at < words && d.below(n-s) < words-at {
			l[s] = given[at]
			at++
		}
	}
	return l
}

// lists are two thrown ones that are right.
func (d *dice) lists(large bool) ([]int, []int) {
	n := 257 + d.below(30)
	lit := d.code(n, 1+d.below(n))
	if lit[256] == 0 {
		at := d.below(n)
		for lit[at] == 0 {
			at = (at + 1) % n
		}
		lit[256], lit[at] = lit[at], 0
	}
	k := 1 + d.below(len(distanceTable(large)))
	return lit, d.code(k, d.below(k+1))
}

// symbolsIn are those of a list, from the first one on, that have words.
func symbolsIn(l []int, first int) []int {
	var all []int
	for s, n := range l {
		if s >= first && n > 0 {
			all = append(all, s)
		}
	}
	return all
}

// number is one that a code stands for, thrown, and none greater than most, if that may be.
func (d *dice) number(table []from, at, most int) int {
	x := table[at]
	return x.least + d.below(max(1, min(1<<x.bits, most-x.least+1)))
}

// pieces are thrown ones that words of a block may tell, behind so many bytes.
func (d *dice) pieces(lit, dist []int, large bool, ahead int) []piece {
	var l []piece
	chars := symbolsIn(lit[:256], 0)
	lengths, distances := symbolsIn(lit, 257), symbolsIn(dist, 0)
	for range d.below(60) {
		if len(chars) > 0 && (d.below(2) == 0 || len(lengths) == 0 || len(distances) == 0) {
			l = append(l, piece{c: byte(chars[d.below(len(chars))])})
			ahead++
			continue
		}
		if len(lengths) == 0 || len(distances) == 0 {
			continue
		}
		s, k := lengths[d.below(len(lengths))], distances[d.below(len(distances))]
		if s > 285 || k >= len(distanceTable(large)) {
			continue
		}
		p := piece{dist: d.number(distanceTable(large), k, ahead), n: d.number(lengthTable(large), s-257, 400), by: s}
		if p.dist <= ahead {
			l = append(l, p)
			ahead += p.n
		}
	}
	return l
}

// block is a thrown one.
func (d *dice) block(large bool, ahead int) block {
	x := block{kind: d.below(3)}
	switch x.kind {
	case 0:
		x.text = string(d.bytes(d.below(1 + d.below(2000))))
	case 1:
		lit, dist := Fixed()
		x.l = d.pieces(lit, dist, large, ahead)
	case 2:
		x.lit, x.dist = d.lists(large)
		x.l = d.pieces(x.lit, x.dist, large, ahead)
	}
	return x
}

func (d *dice) blocks(large bool) []block {
	var l []block
	for range 1 + d.below(5) {
		l = append(l, d.block(large, told(l)))
	}
	return l
}

// P18.2, P18.3: thrown blocks, as they are, cut, with bytes behind, for other sizes, and by the other window.
func TestDecodeThrown(t *testing.T) {
	d := dice(187)
	seen := map[api.Errno]int{}
	for i := range 400 {
		large := i%2 == 0
		l := d.blocks(large)
		wantBlocks(t, large, l...)
		b := packed(stream(large, l...))
		n := told(l)
		seen[wantPlain(t, b, large, n)]++
		seen[wantPlain(t, b, !large, n)]++
		seen[wantPlain(t, append(slices.Clone(b), d.bytes(d.below(3))...), large, n)]++
		seen[wantPlain(t, b, large, d.below(n+3))]++
		seen[wantPlain(t, b[:d.below(len(b)+1)], large, n)]++
		seen[wantPlain(t, append(slices.Clone(b[:d.below(len(b)+1)]), d.bytes(d.below(9))...), large, n+20)]++
		for range 4 {
			turned := slices.Clone(b)
			at := d.below(8 * len(b))
			turned[at/8] ^= 1 << (at % 8)
			seen[wantPlain(t, turned, large, n)]++
		}
	}
	for _, e := range []api.Errno{api.OK, api.ErrShort, api.ErrForm, api.ErrRest, api.ErrTree, api.ErrCode, api.ErrDist, api.ErrSize} {
		if seen[e] < 10 {
			t.Error(e, seen)
		}
	}
}

// P18.2, P18.3: each bit turned.
func TestDecodeSpoilt(t *testing.T) {
	l := append(lits("she sells sea shells by the "), piece{dist: 18, n: 4}, piece{c: 'o'}, piece{dist: 25, n: 24}, piece{dist: 50, n: 80})
	both(func(large bool) {
		ahead := block{kind: 0, text: "on "}
		own := kinds(large, l)[1]
		for _, blocks := range [][]block{{{kind: 1, l: l}}, {ahead, {kind: 1, l: l}}, {own}, {ahead, {kind: 1, l: lits("and ")}, own}} {
			b := packed(stream(large, blocks...))
			n := told(blocks)
			for i := range 8 * len(b) {
				turned := slices.Clone(b)
				turned[i/8] ^= 1 << (i % 8)
				wantPlain(t, turned, large, n)
			}
			for size := range n + 9 {
				wantPlain(t, b, large, size)
			}
		}
	})
}

// P18.2: bytes that mean nothing.
func TestDecodeNoise(t *testing.T) {
	d := dice(188)
	for i := range 6000 {
		b := d.bytes(1 + d.below(100))
		if i%3 == 0 { // a block of fixed codes, which may go on long
			b[0] = b[0]&^6 | 2
		}
		wantPlain(t, b, d.below(2) == 0, d.below(60)-1)
	}
}

// P18.2: a block's lengths that are none, behind which nothing is read.
func TestDecodeWrongLists(t *testing.T) {
	both(func(large bool) {
		lit, dist := full(286), full(30)
		over, under, endless := slices.Clone(lit), slices.Clone(lit), slices.Clone(lit)
		over[0]--
		under[0]++
		endless[256] = 0
		for _, x := range []struct {
			lit, dist []int
			e         api.Errno
		}{
			{over, dist, api.ErrTree}, {under, dist, api.ErrTree}, {endless, dist, api.ErrTree},
			{lit, []int{1, 2}, api.ErrTree}, {lit, []int{1, 1, 1}, api.ErrTree}, {lit, []int{2}, api.ErrTree},
			{append(slices.Clone(lit), 0), dist, api.ErrForm}, {append(slices.Clone(lit), 0, 0), dist, api.ErrForm},
			{lit[:257], dist, api.ErrTree},
		} {
			bits := "101" + spellLists(x.lit, x.dist)
			for size := range 3 {
				wantError(t, packed(bits), large, size, x.e)
				wantError(t, packed(bits, spelt(make([]byte, 50))), large, size, x.e)
			}
		}
		for n := 31; n <= 32; n++ {
			e := api.ErrForm
			if large {
				e = api.OK
			}
			bits := "101" + spellLists(lit, full(n)) + wordsOf(lit)[256]
			want(t, packed(bits), large, 0, nil, map[api.Errno]int{api.OK: 2}[e], e)
		}
	})
}

// P18.2: what Deflate's other writers wrote, of all levels.
func TestFlateWrites(t *testing.T) {
	d := dice(189)
	noise := d.bytes(200000)
	var words bytes.Buffer
	for words.Len() < 300000 {
		words.WriteString([]string{"she ", "sells ", "sea ", "shells ", "by the shore, ", "and "}[d.below(6)])
		words.Write(noise[d.below(1000):][:d.below(3)])
	}
	for _, text := range [][]byte{nil, []byte("a"), noise, words.Bytes(), make([]byte, 500000), slices.Concat(noise[:40000], words.Bytes(), noise[:40000])} {
		for level := -2; level <= 9; level++ {
			var b bytes.Buffer
			w, _ := flate.NewWriter(&b, level)
			for piece := range slices.Chunk(text, 50000) {
				w.Write(piece)
				w.Flush() // a block of kind 0, without bytes
			}
			w.Close()
			got, steps, e := Decode(b.Bytes(), false, len(text))
			if e != api.OK || !bytes.Equal(got, text) || steps > 8*b.Len() {
				t.Fatal(len(text), level, len(got), steps, e)
			}
		}
	}
}

// wantFlate holds Decode against another reader of Deflate: the one has no error just where the other has none, if
// nothing stands behind.
func wantFlate(t *testing.T, b []byte, size int) bool {
	t.Helper()
	left := bytes.NewReader(b) // which is asked byte by byte, and so tells what was not read
	told, err := io.ReadAll(flate.NewReader(left))
	if err != nil {
		if got, _, e := Decode(b, false, size); e == api.OK {
			t.Fatalf("%x: %q, but %v", b, got, err)
		}
		return false
	}
	got, _, e := Decode(b, false, len(told))
	if left.Len() > 0 {
		if e != api.ErrRest {
			t.Fatalf("%x: %d, but %d bytes are left", b, e, left.Len())
		}
		return true
	}
	if e != api.OK || !bytes.Equal(got, told) {
		t.Fatalf("%x: %q, %d, but %q", b, got, e, told)
	}
	return true
}

// P18.2, P18.3: thrown blocks, and such as were changed at a place, read by another reader of Deflate.
func TestFlateReads(t *testing.T) {
	d := dice(190)
	seen := map[bool]int{}
	for range 400 {
		l := d.blocks(false)
		b := packed(stream(false, l...))
		if !wantFlate(t, b, told(l)) {
			t.Fatalf("%x", b)
		}
		for range 10 {
			turned := append(slices.Clone(b), d.bytes(d.below(2))...)
			at := d.below(8 * len(b))
			turned[at/8] ^= 1 << (at % 8)
			seen[wantFlate(t, turned, told(l))]++
		}
	}
	if seen[true] < 300 || seen[false] < 300 {
		t.Error(seen)
	}
}

// P18.2: own codes as dyn writes them.
func TestDecodeDyn(t *testing.T) {
	d := dice(191)
	for range 300 {
		large := d.below(2) == 0
		lit, dist := d.lists(large)
		l := d.pieces(lit, dist, large, 0)
		w := bitio.New()
		w.Put(5, 3)
		dyn.Write(w, lit, dist, large)
		bits := spelt(w.Bytes())[:w.Len()]
		all, steps := toldBy(block{kind: 2, l: l})
		want(t, packed(bits, pair{wordsOf(lit), wordsOf(dist)}.bits(l, large)), large, len(all), all, steps, api.OK)
	}
}

// P18.2: much text of few bits, and blocks without number.
func TestDecodeMuch(t *testing.T) {
	l := append(lits("duffel"), slices.Repeat([]piece{{dist: 6, n: 65538}}, 100)...)
	text := bytes.Repeat([]byte("duffel"), 1+100*65538/6)
	b := packed(stream(true, block{kind: 1, l: l}))
	want(t, b, true, len(text), text, 108, api.OK)
	wantError(t, b, true, len(text)-1, api.ErrSize)
	wantError(t, b, true, len(text)+1, api.ErrSize)
	wantError(t, b, true, math.MaxInt, api.ErrSize)
	both(func(large bool) {
		n := 100000
		b := packed(strings.Repeat("0100000000", n), "1100000000")
		want(t, b, large, 0, nil, 2*(n+1), api.OK)
		b = slices.Concat(bytes.Repeat([]byte{0, 0, 0, 255, 255}, n), []byte{1, 0, 0, 255, 255})
		want(t, b, large, 0, nil, n+1, api.OK)
	})
}

// P18.2, R3, R4
func TestDecodedIsNewMemory(t *testing.T) {
	both(func(large bool) {
		for _, x := range append(kinds(large, lits("abcabc")), block{kind: 0, text: "abcabc"}) {
			b := packed(stream(large, x))
			one, _, _ := Decode(b, large, 6)
			two, _, _ := Decode(b, large, 6)
			for i := range one {
				one[i] = 'x'
			}
			_ = append(one, 'y')
			clear(b)
			if string(two) != "abcabc" {
				t.Fatal(two)
			}
		}
	})
}
