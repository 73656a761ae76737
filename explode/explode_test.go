package explode

import (
	"bytes"
	"math"
	"slices"
	"strings"
	"testing"

	"duffel/api"
)

// dice is a row of numbers that look thrown, and are the same in every run.
type dice uint64

func (d *dice) below(n int) int {
	*d = *d*6364136223846793005 + 1442695040888963407
	return int(uint64(*d)>>33) % n
}

func (d *dice) bytes(n int) []byte {
	b := make([]byte, n)
	for i := range b {
		b[i] = byte(d.below(256))
	}
	return b
}

// tree is a full code of so many symbols: words are thrown for, of which each becomes two longer ones.
func (d *dice) tree(symbols int) []int {
	l := []int{1, 1}
	for len(l) < symbols {
		if s := d.below(len(l)); l[s] < 16 {
			l[s]++
			l = slices.Insert(l, d.below(len(l)+1), l[s])
		}
	}
	return l
}

// spell answers a number's bits as a text of noughts and ones, the lowest bit first.
func spell(x, n int) string {
	text := make([]byte, n)
	for i := range text {
		text[i] = byte('0' + x>>i&1)
	}
	return string(text)
}

// spelt are the bits of bytes.
func spelt(b []byte) string {
	var text strings.Builder
	for _, c := range b {
		text.WriteString(spell(int(c), 8))
	}
	return text.String()
}

// packed are bytes of bits that are spelt, noughts behind them up to a byte's end.
func packed(bits ...string) []byte {
	all := strings.Join(bits, "")
	b := make([]byte, (len(all)+7)/8)
	for i, bit := range all {
		if bit == '1' {
			b[i/8] |= 1 << (i % 8)
		}
	}
	return b
}

// plusOne is the number behind a number of which the first bit is the highest; it has as many bits.
func plusOne(word string) string {
	at := strings.LastIndex(word, "0")
	return word[:at] + "1" + strings.Repeat("0", len(word)-at-1)
}

// wordsOf are the words of a full code by the words of P6.2, the first bit first.
func wordsOf(l []int) []string {
	order := make([]int, len(l))
	for s := range order {
		order[s] = s
	}
	slices.SortStableFunc(order, func(a, b int) int { return l[a] - l[b] })
	words := make([]string, len(l))
	ahead := ""
	for _, s := range slices.Backward(order) {
		words[s] = strings.Repeat("0", l[s])
		if ahead != "" {
			words[s] = plusOne(ahead)[:l[s]]
		}
		ahead = words[s]
	}
	return words
}

// rowsOf are lengths as bytes by the words of P6.3, in rows of so many symbols at most.
func rowsOf(l []int, most int) []byte {
	b := []byte{0}
	for i := 0; i < len(l); {
		n := 1
		for n < most && i+n < len(l) && l[i+n] == l[i] {
			n++
		}
		b = append(b, byte((n-1)*16+l[i]-1))
		i += n
	}
	b[0] = byte(len(b) - 2)
	return b
}

// kind is one of the four kinds by the words of P15.1.
type kind struct {
	large, trees       bool
	window, low, least int
}

var kinds = []kind{
	{false, false, 4096, 6, 2},
	{true, false, 8192, 7, 2},
	{false, true, 4096, 6, 3},
	{true, true, 8192, 7, 3},
}

// piece is a byte, if n is 0, or a copy.
type piece struct {
	c       byte
	dist, n int
}

func lits(text string) []piece {
	var l []piece
	for _, c := range []byte(text) {
		l = append(l, piece{c: c})
	}
	return l
}

// told is what pieces tell.
func told(l []piece) string {
	var b []byte
	for _, p := range l {
		if p.n == 0 {
			b = append(b, p.c)
		}
		for range p.n {
			c := byte(0)
			if p.dist <= len(b) {
				c = b[len(b)-p.dist]
			}
			b = append(b, c)
		}
	}
	return string(b)
}

// forest are the trees of a kind; without trees that of bytes isn't written.
type forest struct {
	kind
	lengths [3][]int
	words   [3][]string
}

func grow(k kind, bytes, lengths, distances []int) *forest {
	f := &forest{kind: k, lengths: [3][]int{bytes, lengths, distances}}
	for i, l := range f.lengths {
		f.words[i] = wordsOf(l)
	}
	return f
}

// flat are trees in which all words are of one length.
func flat(k kind) *forest {
	six := slices.Repeat([]int{6}, 64)
	return grow(k, slices.Repeat([]int{8}, 256), six, six)
}

// thrown are trees of any shape.
func (d *dice) thrown(k kind) *forest {
	return grow(k, d.tree(256), d.tree(64), d.tree(64))
}

// written are the trees that are written.
func (f *forest) written() [][]int {
	if f.trees {
		return f.lengths[:]
	}
	return f.lengths[1:]
}

// head are the trees' bytes.
func (f *forest) head() []byte {
	var b []byte
	for _, l := range f.written() {
		b = append(b, rowsOf(l, 16)...)
	}
	return b
}

// bits are pieces by the words of P15.2.
func (f *forest) bits(l []piece) string {
	var text strings.Builder
	for _, p := range l {
		switch {
		case p.n > 0:
			text.WriteString("0" + spell((p.dist-1)%(1<<f.low), f.low) + f.words[2][(p.dist-1)>>f.low])
			x := min(p.n-f.least, 63)
			text.WriteString(f.words[1][x])
			if x == 63 {
				text.WriteString(spell(p.n-f.least-63, 8))
			}
		case f.trees:
			text.WriteString("1" + f.words[0][p.c])
		default:
			text.WriteString("1" + spell(int(p.c), 8))
		}
	}
	return text.String()
}

func (f *forest) stream(l []piece) []byte { return append(f.head(), packed(f.bits(l))...) }

// reading is what is left of bits that are spelt; once they end too early, it is short.
type reading struct {
	left  string
	short bool
}

func (r *reading) number(n int) int {
	if len(r.left) < n {
		r.short = true
		return 0
	}
	x := 0
	for i := range n {
		x += int(r.left[i]-'0') << i
	}
	r.left = r.left[n:]
	return x
}

// tree reads a tree by the words of P6.1 to P6.3: symbols by words.
func (r *reading) tree(n int) (map[string]int, api.Errno) {
	var l []int
	for range r.number(8) + 1 {
		b := r.number(8)
		l = append(l, slices.Repeat([]int{b%16 + 1}, b/16+1)...)
	}
	sum := 0.0 // a float has each such sum as it is
	for _, n := range l {
		sum += math.Pow(2, -float64(n))
	}
	switch {
	case r.short:
		return nil, api.ErrShort
	case len(l) != n || sum != 1:
		return nil, api.ErrTree
	}
	symbols := map[string]int{}
	for s, word := range wordsOf(l) {
		symbols[word] = s
	}
	return symbols, api.OK
}

func (r *reading) word(symbols map[string]int) int {
	for n := range len(r.left) + 1 {
		if s, there := symbols[r.left[:n]]; there {
			r.left = r.left[n:]
			return s
		}
	}
	r.short = true
	return 0
}

// piece reads a byte or a copy.
func (r *reading) piece(k kind, trees [3]map[string]int) piece {
	if r.number(1) == 1 {
		if k.trees {
			return piece{c: byte(r.word(trees[0]))}
		}
		return piece{c: byte(r.number(8))}
	}
	low := r.number(k.low)
	high := r.word(trees[2])
	x := r.word(trees[1])
	if x == 63 {
		x += r.number(8)
	}
	return piece{dist: 1 + low + high<<k.low, n: x + k.least}
}

// decodePlainly goes by the words of P15.2 and P15.3.
func decodePlainly(b []byte, k kind, size int) (string, int, api.Errno) {
	switch {
	case size < 0:
		return "", 0, api.ErrArg
	case size == 0 && len(b) > 0:
		return "", 0, api.ErrRest
	case size == 0:
		return "", 0, api.OK
	}
	r := reading{left: spelt(b)}
	var trees [3]map[string]int
	for i, n := range []int{256, 64, 64} {
		if i == 0 && !k.trees {
			continue
		}
		var e api.Errno
		if trees[i], e = r.tree(n); e != api.OK {
			return "", 0, e
		}
	}
	var l []piece
	for n := 0; n < size; {
		p := r.piece(k, trees)
		if r.short {
			return "", 0, api.ErrShort
		}
		if n += max(p.n, 1); n > size {
			return "", 0, api.ErrSize
		}
		l = append(l, p)
	}
	if len(r.left) >= 8 {
		return "", 0, api.ErrRest
	}
	return told(l), len(l), api.OK
}

// want asks what is decoded.
func want(t *testing.T, b []byte, k kind, size int, text string, steps int, e api.Errno) {
	t.Helper()
	kept := slices.Clone(b)
	got, n, err := Decode(b, k.large, k.trees, size)
	if string(got) != text || n != steps || err != e {
		t.Fatalf("%d bytes by %v for %d: %.60q, %d, %d; want %.60q, %d, %d", len(b), k, size, got, n, err, text, steps, e)
	}
	if !bytes.Equal(b, kept) {
		t.Fatal("changed")
	}
	if n > 8*len(b) || n > len(got) {
		t.Fatal(n, "steps of", len(b), "bytes that tell", len(got))
	}
}

// wantError asks for an error, and for nothing beside it.
func wantError(t *testing.T, b []byte, k kind, size int, e api.Errno) {
	t.Helper()
	want(t, b, k, size, "", 0, e)
}

// wantPieces asks for what pieces tell, by trees.
func wantPieces(t *testing.T, f *forest, l []piece) {
	t.Helper()
	text := told(l)
	want(t, f.stream(l), f.kind, len(text), text, len(l), api.OK)
}

// wantPlain asks for what the plain reader tells.
func wantPlain(t *testing.T, b []byte, k kind, size int) api.Errno {
	t.Helper()
	text, steps, e := decodePlainly(b, k, size)
	want(t, b, k, size, text, steps, e)
	return e
}

// P15.1
func TestParams(t *testing.T) {
	for _, k := range kinds {
		if window, low, least := Params(k.large, k.trees); window != k.window || low != k.low || least != k.least {
			t.Error(k, window, low, least)
		}
	}
	if window, low, least := Params(true, true); window != 8192 || low != 7 || least != 3 {
		t.Error(window, low, least)
	}
}

// P15.2: of a size below 0, whatever the bytes are.
func TestDecodeTakesSizes(t *testing.T) {
	for _, k := range kinds {
		right := flat(k).stream(lits("a"))
		for _, b := range [][]byte{nil, {}, {0}, {255}, right, append(right, 0), flat(k).head()} {
			for _, size := range []int{-1, -2, -8192, math.MinInt32, math.MinInt} {
				wantError(t, b, k, size, api.ErrArg)
			}
		}
	}
}

// P15.2: of size 0 there are no bytes, not even the trees.
func TestDecodeNothing(t *testing.T) {
	for _, k := range kinds {
		want(t, nil, k, 0, "", 0, api.OK)
		want(t, []byte{}, k, 0, "", 0, api.OK)
		for _, b := range [][]byte{{0}, {1}, {255}, {0, 0}, flat(k).head(), flat(k).stream(lits("a"))} {
			wantError(t, b, k, 0, api.ErrRest)
		}
		wantError(t, bytes.Repeat([]byte{255}, 300), k, 0, api.ErrRest) // not ErrTree
	}
}

// handTree is a tree of 64 words of six bits, handBytes one of 256 words of eight: of a symbol all bits turned,
// the highest first.
const (
	handTree  = "\x03\xf5\xf5\xf5\xf5"
	handBytes = "\x0f\xf7\xf7\xf7\xf7\xf7\xf7\xf7\xf7\xf7\xf7\xf7\xf7\xf7\xf7\xf7\xf7"
)

// P15.2: texts written out.
func TestDecodeByHand(t *testing.T) {
	trees := []byte(handTree + handTree)
	all := []byte(handBytes + handTree + handTree)
	for _, c := range []struct {
		k     kind
		bits  []string
		text  string
		steps int
	}{
		{kinds[0], []string{"1", "10000110"}, "a", 1},
		{kinds[2], []string{"1", "10011110"}, "a", 1}, // a is 01100001
		{kinds[0], []string{"1", "00010110", "1", "10010110", "0", "100000", "111111", "111111"}, "hihi", 3},
		// a distance of 1 alone, x is 4: the least length beside it
		{kinds[0], []string{"1", "10000110", "0", "000000", "111111", "111011"}, "aaaaaaa", 2},
		{kinds[1], []string{"1", "10000110", "0", "0000000", "111111", "111011"}, "aaaaaaa", 2},
		{kinds[2], []string{"1", "10011110", "0", "000000", "111111", "111011"}, "aaaaaaaa", 2},
		{kinds[3], []string{"1", "10011110", "0", "0000000", "111111", "111011"}, "aaaaaaaa", 2},
		// x is 63: eight bits more, here 128 and 1
		{kinds[0], []string{"1", "10000110", "0", "000000", "111111", "000000", "00000001"}, strings.Repeat("a", 1+63+128+2), 2},
		{kinds[3], []string{"1", "10011110", "0", "0000000", "111111", "000000", "10000000"}, strings.Repeat("a", 1+63+1+3), 2},
		// from ahead of the beginning: a distance of 1 + 32 + 64, of 1 + 64 + 128, and the greatest ones
		{kinds[0], []string{"0", "000001", "111110", "111110"}, "\x00\x00\x00", 1},
		{kinds[0], []string{"0", "111111", "000000", "111111"}, "\x00\x00", 1},
		{kinds[3], []string{"1", "10011110", "0", "0000001", "111110", "111111"}, "a\x00\x00\x00", 2},
		{kinds[3], []string{"0", "1111111", "000000", "111110"}, "\x00\x00\x00\x00", 1},
		// a distance of 3, where two bytes stand
		{kinds[0], []string{"1", "10000110", "1", "01000110", "0", "010000", "111111", "111011"}, "ab\x00ab\x00ab", 3},
	} {
		b := append(slices.Clone(trees), packed(c.bits...)...)
		if c.k.trees {
			b = append(slices.Clone(all), packed(c.bits...)...)
		}
		want(t, b, c.k, len(c.text), c.text, c.steps, api.OK)
		wantPlain(t, b, c.k, len(c.text))
		wantError(t, append(b, 'd'), c.k, len(c.text), api.ErrRest)
	}
}

// P15.2: a tree of words of many lengths, written out.
func TestDecodeTreesByHand(t *testing.T) {
	// Lengths: 0 has one bit, 63 two, 1 and 2 have seven, the 60 others eight. From the last one on: 62 is 00000000,
	// 3 is 00111011, 2 is 0011110, 1 is 0011111, 63 is 01, 0 is 1.
	lengths := []byte{6, 0x00, 0x16, 0xe7, 0xf7, 0xf7, 0xc7, 0x01}
	// Distances: 63 has one bit, 0 six, the 62 others seven. From the last one on: 62 is 0000000, 1 is 0111101,
	// 0 is 011111, 63 is 1.
	distances := []byte{5, 0x05, 0xf6, 0xf6, 0xf6, 0xd6, 0x00}
	head := slices.Concat(lengths, distances)
	for _, c := range []struct {
		bits  []string
		text  string
		steps int
	}{
		{[]string{"1", "10000110", "0", "000000", "011111", "1"}, "aaa", 2},
		{[]string{"1", "10000110", "0", "000000", "011111", "0011111"}, "aaaa", 2},
		{[]string{"1", "10000110", "0", "000000", "011111", "0011110"}, "aaaaa", 2},
		{[]string{"1", "10000110", "0", "000000", "011111", "01", "01000000"}, strings.Repeat("a", 68), 2},
		{[]string{"1", "10000110", "0", "000000", "1", "1"}, "a\x00\x00", 2},
		{[]string{"1", "10000110", "0", "111111", "0000000", "1"}, "a\x00\x00", 2},
		{[]string{"1", "10000110", "0", "000000", "011111", "00000000"}, strings.Repeat("a", 65), 2},
	} {
		b := append(slices.Clone(head), packed(c.bits...)...)
		want(t, b, kinds[0], len(c.text), c.text, c.steps, api.OK)
	}
}

// P15.2: all bytes, by eight bits, and by trees.
func TestEveryByte(t *testing.T) {
	d := dice(151)
	for _, k := range kinds {
		for range 5 {
			for _, f := range []*forest{flat(k), d.thrown(k)} {
				for c := range 256 {
					wantPieces(t, f, lits(string([]byte{byte(c)})))
				}
				wantPieces(t, f, lits(string(d.bytes(1000))))
			}
		}
	}
}

// P15.2: all lengths, where x is 0 to 62 and where it is 63 and more.
func TestEveryLength(t *testing.T) {
	d := dice(152)
	for _, k := range kinds {
		for _, f := range []*forest{flat(k), d.thrown(k)} {
			var l []piece
			for n := k.least; n <= k.least+63+255; n++ {
				p := []piece{{c: 'a'}, {c: 'b'}, {c: 'c'}, {dist: 3, n: n}}
				wantPieces(t, f, p)
				l = append(l, p...)
			}
			wantPieces(t, f, l)
		}
	}
}

// P15.2: all distances, up to the greatest, in a text by which each is known.
func TestEveryDistance(t *testing.T) {
	d := dice(153)
	text := string(d.bytes(8192))
	for _, k := range kinds {
		for _, f := range []*forest{flat(k), d.thrown(k)} {
			l := lits(text)
			for dist := 1; dist <= k.window; dist++ {
				l = append(l, piece{dist: dist, n: k.least + dist%5})
			}
			wantPieces(t, f, l)
		}
	}
}

// P15.2: noughts stand ahead of the beginning, as far as the dictionary goes.
func TestDecodeNoughts(t *testing.T) {
	for _, k := range kinds {
		f := flat(k)
		for _, dist := range []int{1, 2, 3, 4, 63, 64, 65, 128, 129, k.window - 1, k.window} {
			wantPieces(t, f, []piece{{dist: dist, n: k.least}})
			wantPieces(t, f, []piece{{dist: dist, n: 318}})
			wantPieces(t, f, append(lits("ab"), piece{dist: dist, n: 7}, piece{c: 'c'}, piece{dist: dist, n: 7}))
			wantPieces(t, f, append(lits("abcdefg"), piece{dist: dist, n: 100}))
		}
	}
}

// deep is a full code that has words of one bit and of 16, the longest ones ahead.
func deep(symbols int) []int {
	l := []int{16, 16, 15, 14, 13, 12, 11, 10, 9, 8, 7, 6, 5, 4, 3, 2, 1}
	for n := 5; len(l) < symbols; {
		at := slices.Index(l, n) // the shortest one, but for four that stay
		if at < 0 {
			n++
			continue
		}
		l[at]++
		l = slices.Insert(l, at, l[at])
	}
	return l
}

// P15.2: words of up to 16 bits, in each tree.
func TestDecodeLongWords(t *testing.T) {
	for _, k := range kinds {
		f := grow(k, deep(256), deep(64), deep(64))
		for _, l := range f.lengths {
			if slices.Max(l) != 16 || slices.Min(l) != 1 {
				t.Fatal(l)
			}
		}
		var l []piece
		for c := range 256 {
			l = append(l, piece{c: byte(c)}, piece{dist: 1 + c*16, n: k.least + c/3})
		}
		wantPieces(t, f, l)
		turned := grow(k, deep(256), deep(64), deep(64))
		for i := range turned.lengths {
			slices.Reverse(turned.lengths[i])
			turned.words[i] = wordsOf(turned.lengths[i])
		}
		wantPieces(t, turned, l)
	}
}

// P15.2: rows that are shorter than they could be tell the same trees.
func TestDecodeShortRows(t *testing.T) {
	for _, k := range kinds {
		f := flat(k)
		l := append(lits("abcabc"), piece{dist: 100, n: 9}, piece{dist: 4, n: 70})
		for most := 1; most <= 16; most++ {
			var b []byte
			for _, lengths := range f.written() {
				b = append(b, rowsOf(lengths, most)...)
			}
			b = append(b, packed(f.bits(l))...)
			text := told(l)
			want(t, b, k, len(text), text, len(l), api.OK)
		}
	}
}

// P15.2: which trees are there, is said from outside.
func TestDecodeOtherTrees(t *testing.T) {
	for _, k := range kinds {
		other := k
		other.trees = !k.trees
		wantError(t, flat(k).stream(lits("abc")), other, 3, api.ErrTree)
	}
	// Where low bits or the least length are others, the same bytes tell something else.
	b := flat(kinds[0]).stream([]piece{{c: 'a'}, {dist: 1, n: 5}})
	want(t, b, kinds[0], 6, "aaaaaa", 2, api.OK)
	wantPlain(t, b, kinds[1], 6)
	b = flat(kinds[2]).stream([]piece{{c: 'a'}, {dist: 1, n: 5}})
	want(t, b, kinds[2], 6, "aaaaaa", 2, api.OK)
	wantError(t, b, kinds[2], 5, api.ErrSize)
}

// wrongTrees are lengths that make no code of so many symbols.
func wrongTrees(symbols int) [][]int {
	even := 8
	if symbols == 64 {
		even = 6
	}
	right := slices.Repeat([]int{even}, symbols)
	over, under, little := slices.Clone(right), slices.Clone(right), slices.Clone(right)
	over[symbols/2]--
	under[0]++
	little[symbols-1] = 16
	all := [][]int{over, under, little, right[1:], slices.Concat(right, right), right[:symbols/2], {1, 1}, {1}, {16}}
	all = append(all, append(slices.Clone(right), even), append(slices.Clone(right), 16))
	// Full codes of too few and too many symbols.
	d := dice(154)
	return append(all, d.tree(symbols-1), d.tree(symbols+1), slices.Repeat([]int{even - 1}, symbols/2), slices.Repeat([]int{even + 1}, 2*symbols))
}

// P15.2: a wrong tree, whichever it is, whatever stands behind it.
func TestDecodeWrongTrees(t *testing.T) {
	for _, k := range kinds {
		f := flat(k)
		written := f.written()
		for i, right := range written {
			var ahead []byte
			for _, l := range written[:i] {
				ahead = append(ahead, rowsOf(l, 16)...)
			}
			for _, wrong := range wrongTrees(len(right)) {
				rows := rowsOf(wrong, 16)
				if len(wrong) <= 256 {
					wantError(t, slices.Concat(ahead, rowsOf(wrong, 3)), k, 1, api.ErrTree)
				}
				b := slices.Concat(ahead, rows)
				for _, size := range []int{1, 2, 1000, math.MaxInt} {
					wantError(t, b, k, size, api.ErrTree) // ahead of the ErrShort of the next one
				}
				for _, l := range written[i+1:] {
					b = append(b, rowsOf(l, 16)...)
				}
				wantError(t, append(b, packed(f.bits(lits("a")))...), k, 1, api.ErrTree)
				wantError(t, append(b, make([]byte, 100)...), k, 1, api.ErrTree)
				for n := range rows {
					wantError(t, slices.Concat(ahead, rows[:n]), k, 1, api.ErrShort)
				}
			}
		}
	}
}

// P15.2: of two wrong trees the first one is told, also where the second one ends too early.
func TestDecodeTreesOneByOne(t *testing.T) {
	for _, k := range kinds {
		var b []byte
		for _, l := range flat(k).written() {
			for n := range rowsOf(l, 16) {
				wantError(t, append(slices.Clone(b), rowsOf(l, 16)[:n]...), k, 1, api.ErrShort)
			}
			wantError(t, append(slices.Clone(b), 0, 0xf0), k, 1, api.ErrTree)
			wantError(t, append(slices.Clone(b), 0, 0xf0, 0xff), k, 1, api.ErrTree)
			wantError(t, append(slices.Clone(b), 1, 0xf0), k, 1, api.ErrShort)
			b = append(b, rowsOf(l, 16)...)
		}
		wantError(t, b, k, 1, api.ErrShort) // no bit behind them
	}
}

// P15.2: too few bits, wherever they end, also where there would be no room for a copy.
func TestDecodeShort(t *testing.T) {
	d := dice(155)
	for _, k := range kinds {
		for _, f := range []*forest{flat(k), d.thrown(k)} {
			l := []piece{{c: 'a'}, {c: 200}, {dist: 2, n: 5}, {dist: 70, n: 63 + k.least}, {c: 'z'}, {dist: 1, n: 318}}
			b, text := f.stream(l), told(l)
			want(t, b, k, len(text), text, len(l), api.OK)
			for n := range b {
				wantError(t, b[:n], k, len(text), api.ErrShort)
				for size := 1; size < len(text); size += 97 {
					wantPlain(t, b[:n], k, size)
				}
			}
			for _, size := range []int{len(text) + 1, len(text) + 318, 1 << 20, math.MaxInt32, math.MaxInt} {
				if e := wantPlain(t, b, k, size); e != api.ErrShort {
					t.Fatal(k, size, e)
				}
			}
		}
	}
}

// P15.2: a copy whose bits end is ErrShort, not ErrSize.
func TestDecodeShortCopies(t *testing.T) {
	for _, k := range kinds {
		f := flat(k)
		bits := f.bits([]piece{{dist: 300, n: 63 + 255 + k.least}})
		for n := 8; n < len(bits); n += 8 {
			wantError(t, append(f.head(), packed(bits[:n])...), k, 1, api.ErrShort)
		}
		wantError(t, append(f.head(), packed(bits)...), k, 1, api.ErrSize)
		// As many bytes of nine bits stand ahead that all ends where the eight bits of the length should begin.
		ahead := slices.Repeat([]piece{{c: 1}}, -len(bits)&7)
		bits = f.bits(ahead) + bits
		for n := len(bits) - 8; n > len(bits)-24; n -= 8 {
			for size := len(ahead) + 1; size < 400; size++ {
				wantError(t, append(f.head(), packed(bits[:n])...), k, size, api.ErrShort)
			}
		}
	}
}

// P15.2: a copy that has no room, whatever stands behind it.
func TestDecodeTooMuch(t *testing.T) {
	for _, k := range kinds {
		f := flat(k)
		for _, n := range []int{k.least, k.least + 1, 62 + k.least, 63 + k.least, 64 + k.least, 318 + k.least} {
			for _, dist := range []int{1, 2, 3, 100, k.window} {
				l := append(lits("ab"), piece{dist: dist, n: n})
				b := f.stream(l)
				text := told(l)
				for size := 3; size < 2+n; size++ {
					wantError(t, b, k, size, api.ErrSize)
				}
				wantError(t, append(b, make([]byte, 50)...), k, 1+n, api.ErrSize) // ahead of ErrRest
				wantError(t, append(b, bytes.Repeat([]byte{255}, 50)...), k, 1+n, api.ErrSize)
				want(t, b, k, 2+n, text, 3, api.OK)
			}
		}
		wantError(t, f.stream([]piece{{dist: 1, n: k.least}}), k, k.least-1, api.ErrSize)
		want(t, f.stream([]piece{{dist: 1, n: k.least}}), k, k.least, strings.Repeat("\x00", k.least), 1, api.OK)
	}
}

// P15.3: seven bits may be left, whatever they are; eight may not.
func TestDecodeRest(t *testing.T) {
	for _, k := range kinds {
		f := flat(k)
		left := map[int]bool{}
		for n := 1; n < 20; n++ {
			text := strings.Repeat("a", n)
			bits := f.bits(lits(text))
			left[-len(bits)&7] = true
			for extra := range 30 {
				for _, bit := range []string{"0", "1"} {
					b := append(f.head(), packed(bits, strings.Repeat(bit, extra))...)
					if len(bits)+extra <= (len(bits)+7)/8*8 {
						want(t, b, k, n, text, n, api.OK)
					} else {
						wantError(t, b, k, n, api.ErrRest)
					}
				}
			}
		}
		if len(left) != 8 {
			t.Fatal(left)
		}
	}
}

// P15.2, P15.3: what would be read next is not read, once all is told.
func TestDecodeEndsWhereAllIsTold(t *testing.T) {
	for _, k := range kinds {
		f := flat(k)
		l := append(lits("abcdefg"), piece{dist: 3, n: 9}, piece{c: 'z'})
		bits := f.bits(l)
		for size := 1; size <= len(told(l)); size++ {
			wantPlain(t, append(f.head(), packed(bits)...), k, size)
		}
		for n := 1; n <= 7; n++ { // bytes of nine bits, cut behind the last one that is asked for
			cut := f.bits(l[:n])
			want(t, append(f.head(), packed(cut)...), k, n, told(l[:n]), n, api.OK)
			wantError(t, append(f.head(), packed(cut, "11111111")...), k, n, api.ErrRest)
		}
	}
}

// P15.3: a byte is a step, and a copy of many bytes is one.
func TestSteps(t *testing.T) {
	for _, k := range kinds {
		f := flat(k)
		for _, n := range []int{1, 2, 100, 3000} {
			wantPieces(t, f, slices.Repeat([]piece{{c: 'x'}}, n))
			wantPieces(t, f, slices.Repeat([]piece{{dist: 1, n: k.least}}, n))
			wantPieces(t, f, slices.Repeat([]piece{{c: 'x'}, {dist: 9, n: 318}, {c: 'y'}}, n))
		}
	}
}

// P15.2, P15.3: much text of few bits, and no more memory than what is told.
func TestDecodeMuch(t *testing.T) {
	for _, k := range kinds {
		f := grow(k, deep(256), deep(64), slices.Repeat([]int{6}, 64))
		l := append(lits("duffel"), slices.Repeat([]piece{{dist: 6, n: 318}}, 3000)...)
		text := strings.Repeat("duffel", 1+3000*318/6)
		b := f.stream(l)
		want(t, b, k, len(text), text, 3006, api.OK)
		wantError(t, b, k, len(text)-1, api.ErrSize)
		wantError(t, b, k, len(text)+1, api.ErrShort)
		wantError(t, b, k, math.MaxInt, api.ErrShort)
	}
}

// pieces are thrown ones.
func (d *dice) pieces(k kind, most int) []piece {
	var l []piece
	for range 1 + d.below(most) {
		switch d.below(4) {
		case 0:
			l = append(l, piece{dist: 1 + d.below(k.window), n: k.least + d.below(64)})
		case 1:
			l = append(l, piece{dist: 1 + d.below(20), n: k.least + d.below(319)})
		default:
			l = append(l, piece{c: byte(d.below(256))})
		}
	}
	return l
}

// P15.2, P15.3: thrown pieces by thrown trees, as they are, cut, with bits behind, and for other sizes.
func TestDecodeThrown(t *testing.T) {
	d := dice(156)
	seen := map[api.Errno]int{}
	for range 60 {
		for _, k := range kinds {
			f, l := d.thrown(k), d.pieces(k, 40)
			text := told(l)
			want(t, f.stream(l), k, len(text), text, len(l), api.OK)
			b := append(f.stream(l), d.bytes(d.below(6))...)
			for range 4 {
				first := l[:1+d.below(len(l))]
				seen[wantPlain(t, append(f.stream(first), d.bytes(d.below(2))...), k, len(told(first)))]++
				seen[wantPlain(t, b, k, 1+d.below(len(text)+9))]++
				seen[wantPlain(t, b[:d.below(len(b)+1)], k, 1+d.below(len(text)))]++
			}
			seen[wantPlain(t, append(f.head(), d.bytes(d.below(30))...), k, 1+d.below(300))]++
			seen[wantPlain(t, b, kinds[d.below(4)], len(text))]++
		}
	}
	for _, e := range []api.Errno{api.OK, api.ErrShort, api.ErrTree, api.ErrSize, api.ErrRest} {
		if seen[e] < 40 {
			t.Error(e, seen)
		}
	}
}

// P15.2: bytes that mean nothing.
func TestDecodeNoise(t *testing.T) {
	d := dice(157)
	for range 2000 {
		for _, k := range kinds {
			wantPlain(t, d.bytes(d.below(300)), k, d.below(50)-1)
			// Few rows, and then trees that may end.
			b := d.bytes(d.below(60))
			for i := range b {
				if d.below(3) > 0 {
					b[i] = "\x00\x03\xf5\x0f\xf7"[d.below(5)]
				}
			}
			wantPlain(t, b, k, d.below(50)-1)
		}
	}
}

// P15.2, P15.3: each bit turned, other kinds and sizes.
func TestDecodeSpoilt(t *testing.T) {
	d := dice(158)
	l := append(lits("she sells sea shells by the "), piece{dist: 18, n: 4}, piece{c: 'o'}, piece{dist: 25, n: 24}, piece{dist: 4000, n: 80})
	text := told(l)
	for _, k := range kinds {
		for _, f := range []*forest{flat(k), d.thrown(k)} {
			b := f.stream(l)
			for i := range 8 * len(b) {
				turned := slices.Clone(b)
				turned[i/8] ^= 1 << (i % 8)
				wantPlain(t, turned, k, len(text))
			}
			for size := range len(text) + 20 {
				for _, other := range kinds {
					wantPlain(t, b, other, size)
				}
			}
		}
	}
}

// P15.2, R3, R4
func TestDecodedIsNewMemory(t *testing.T) {
	for _, k := range kinds {
		b := flat(k).stream(append(lits("abc"), piece{dist: 3, n: 6}))
		one, _, _ := Decode(b, k.large, k.trees, 9)
		two, _, _ := Decode(b, k.large, k.trees, 9)
		for i := range one {
			one[i] = 'x'
		}
		_ = append(one, 'y')
		clear(b)
		if string(two) != "abcabcabc" {
			t.Fatal(two)
		}
	}
}
