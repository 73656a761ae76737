package implode

import (
	"bytes"
	"math"
	"slices"
	"strings"
	"testing"

	"duffel/api"
	"duffel/explode"
	"duffel/limit"
	"duffel/token"
)

// dice is a row of numbers that look thrown, and are the same in every run.
type dice uint64

func (d *dice) below(n int) int {
	*d = *d*6364136223846793005 + 1442695040888963407
	return int(uint64(*d)>>33) % n
}

func (d *dice) bytes(n, kinds int) []byte {
	b := make([]byte, n)
	for i := range b {
		b[i] = byte(d.below(kinds))
	}
	return b
}

// prose is a text of few words.
func (d *dice) prose(n int) []byte {
	words := strings.Fields("how much wood would a woodchuck chuck, if it could? she sells sea shells by the shore: aaaaaaaaaaaa!")
	var b []byte
	for len(b) < n {
		b = append(b, words[d.below(len(words))]...)
		b = append(b, ' ')
	}
	return b[:n]
}

// patchwork is a text of new bytes, of pieces of itself from any distance, and of runs.
func (d *dice) patchwork(n int) []byte {
	b := d.bytes(1, 256)
	for len(b) < n {
		switch d.below(4) {
		case 0:
			b = append(b, d.bytes(1+d.below(40), 256)...)
		case 1:
			b = append(b, bytes.Repeat(b[len(b)-1:], 1+d.below(700))...)
		default:
			from := d.below(len(b))
			b = append(b, b[from:min(len(b), from+1+d.below(400))]...)
		}
	}
	return b[:n]
}

// texts are thrown ones of each sort.
func (d *dice) texts(n int) [][]byte {
	return [][]byte{d.bytes(n, 256), d.bytes(n, 16), d.bytes(n, 3), d.bytes(n, 1), d.prose(n), d.patchwork(n + 1)}
}

// kind is one of the four kinds by the words of P15.1 and P16.1.
type kind struct {
	large, trees             bool
	window, low, least, most int
}

var kinds = []kind{
	{false, false, 4096, 6, 2, 320},
	{true, false, 8192, 7, 2, 320},
	{false, true, 4096, 6, 3, 321},
	{true, true, 8192, 7, 3, 321},
}

func lit(c byte) api.Token       { return api.Token{Lit: c} }
func back(dist, n int) api.Token { return api.Token{Dist: dist, Len: n} }
func lits(text string) []api.Token {
	var l []api.Token
	for _, c := range []byte(text) {
		l = append(l, lit(c))
	}
	return l
}

// spell answers a number's bits as a text of noughts and ones, the lowest bit first.
func spell(x, n int) string {
	text := make([]byte, n)
	for i := range text {
		text[i] = byte('0' + x>>i&1)
	}
	return string(text)
}

// packed are bytes of bits that are spelt, noughts behind them up to a byte's end.
func packed(bits ...string) []byte {
	all := strings.Join(bits, "")
	b := make([]byte, (len(all)+7)/8)
	for i, bit := range all {
		if bit == '1' {
			b[i/8] |= 1 << (i % 8)
		}
	}
	return b
}

// plusOne is the number behind a number of which the first bit is the highest; it has as many bits.
func plusOne(word string) string {
	at := strings.LastIndex(word, "0")
	return word[:at] + "1" + strings.Repeat("0", len(word)-at-1)
}

// wordsOf are the words of a full code by the words of P6.2, the first bit first.
func wordsOf(l []int) []string {
	order := make([]int, len(l))
	for s := range order {
		order[s] = s
	}
	slices.SortStableFunc(order, func(a, b int) int { return l[a] - l[b] })
	words := make([]string, len(l))
	ahead := ""
	for _, s := range slices.Backward(order) {
		words[s] = strings.Repeat("0", l[s])
		if ahead != "" {
			words[s] = plusOne(ahead)[:l[s]]
		}
		ahead = words[s]
	}
	return words
}

// rowsOf are lengths as bytes by the words of P6.3.
func rowsOf(l []int) []byte {
	b := []byte{0}
	for i := 0; i < len(l); {
		n := 1
		for n < 16 && i+n < len(l) && l[i+n] == l[i] {
			n++
		}
		b = append(b, byte((n-1)*16+l[i]-1))
		i += n
	}
	b[0] = byte(len(b) - 2)
	return b
}

// foundAt is what is found at a place by the words of P9.2, its places looked at 64 at most.
func foundAt(b []byte, i int, k kind) api.Token {
	var best api.Token
	looked := 0
	for j := i - 1; j >= 0 && j >= i-k.window && looked < 64; j-- {
		n := 0
		for n < k.most && i+n < len(b) && b[j+n] == b[i+n] {
			n++
		}
		if n < k.least {
			continue
		}
		looked++
		if n > best.Len {
			best = back(i-j, n)
		}
	}
	return best
}

// tokensPlainly goes by the words of P9.3, lazily.
func tokensPlainly(b []byte, k kind) []api.Token {
	var l []api.Token
	for i := 0; i < len(b); {
		t := foundAt(b, i, k)
		if t.Len == 0 || t.Len < k.most && foundAt(b, i+1, k).Len > t.Len {
			l = append(l, lit(b[i]))
			i++
			continue
		}
		l = append(l, t)
		i += t.Len
	}
	return l
}

// treesPlainly goes by the words of P16.2; the tokens are right.
func treesPlainly(l []api.Token, k kind) [3][]int {
	var come [3]map[int]int
	for i := range come {
		come[i] = map[int]int{}
	}
	for _, t := range l {
		if t.Len == 0 {
			come[0][int(t.Lit)]++
		} else {
			come[1][min(t.Len-k.least, 63)]++
			come[2][(t.Dist-1)/(1<<k.low)]++
		}
	}
	var trees [3][]int
	for i, n := range []int{256, 64, 64} {
		if i == 0 && !k.trees {
			continue
		}
		f := make([]int, n)
		for s := range f {
			f[s] = 1 + 1024*come[i][s]
		}
		trees[i], _ = limit.Lengths(f, 16)
	}
	return trees
}

// streamPlainly goes by the words of P16.3 and P15.2.
func streamPlainly(l []api.Token, k kind) []byte {
	if len(l) == 0 {
		return nil
	}
	var head []byte
	var words [3][]string
	for i, tree := range treesPlainly(l, k) {
		if len(tree) > 0 {
			head = append(head, rowsOf(tree)...)
			words[i] = wordsOf(tree)
		}
	}
	var text strings.Builder
	for _, t := range l {
		switch {
		case t.Len > 0:
			text.WriteString("0" + spell((t.Dist-1)%(1<<k.low), k.low) + words[2][(t.Dist-1)/(1<<k.low)])
			x := min(t.Len-k.least, 63)
			text.WriteString(words[1][x])
			if x == 63 {
				text.WriteString(spell(t.Len-k.least-63, 8))
			}
		case k.trees:
			text.WriteString("1" + words[0][t.Lit])
		default:
			text.WriteString("1" + spell(int(t.Lit), 8))
		}
	}
	return append(head, packed(text.String())...)
}

// wantTokens asks for a text's tokens.
func wantTokens(t *testing.T, b []byte, k kind, l []api.Token) {
	t.Helper()
	kept := slices.Clone(b)
	got := Tokens(b, k.large, k.trees)
	if !slices.Equal(got, l) {
		t.Fatalf("%d bytes %.60q by %v: %.200v; want %.200v", len(b), b, k, got, l)
	}
	if !bytes.Equal(b, kept) {
		t.Fatal("changed")
	}
}

// wantTrees asks for the trees of tokens.
func wantTrees(t *testing.T, l []api.Token, k kind, trees [3][]int) {
	t.Helper()
	kept := slices.Clone(l)
	bytes, lengths, distances, e := Trees(l, k.large, k.trees)
	for i, got := range [3][]int{bytes, lengths, distances} {
		if !slices.Equal(got, trees[i]) {
			t.Fatalf("%.100v by %v, tree %d: %v; want %v", l, k, i, got, trees[i])
		}
	}
	if e != api.OK {
		t.Fatal(e)
	}
	if !slices.Equal(l, kept) {
		t.Fatal("changed")
	}
}

// wantWrong asks for ErrArg, and for no trees.
func wantWrong(t *testing.T, l []api.Token, k kind) {
	t.Helper()
	bytes, lengths, distances, e := Trees(l, k.large, k.trees)
	if len(bytes)+len(lengths)+len(distances) > 0 || e != api.ErrArg {
		t.Fatalf("%.100v by %v: %v, %v, %v, %d", l, k, bytes, lengths, distances, e)
	}
}

// wantBack asks that what is encoded be decoded as it was, by as many steps as there are tokens, and be short enough.
func wantBack(t *testing.T, b []byte, k kind) []byte {
	t.Helper()
	kept := slices.Clone(b)
	c := Encode(b, k.large, k.trees)
	got, steps, e := explode.Decode(c, k.large, k.trees, len(b))
	if !bytes.Equal(got, b) || steps != len(Tokens(b, k.large, k.trees)) || e != api.OK {
		t.Fatalf("%d bytes %.60q by %v: %.60q, %d, %d", len(b), b, k, got, steps, e)
	}
	if len(c) > 392+5*len(b)/4 {
		t.Fatalf("%d bytes %.60q by %v: %d bytes", len(b), b, k, len(c))
	}
	if !bytes.Equal(b, kept) {
		t.Fatal("changed")
	}
	return c
}

// wantStream asks for the very bits.
func wantStream(t *testing.T, b []byte, k kind, want []byte) {
	t.Helper()
	if got := wantBack(t, b, k); !bytes.Equal(got, want) {
		t.Fatalf("%d bytes %.60q by %v: %x; want %x", len(b), b, k, got, want)
	}
}

// P16.1: tokens written out.
func TestTokensByHand(t *testing.T) {
	for _, c := range []struct {
		text         string
		eight, trees []api.Token // without trees of bytes, and with them
	}{
		{"", nil, nil},
		{"a", lits("a"), lits("a")},
		{"aa", lits("aa"), lits("aa")},
		{"aaa", []api.Token{lit('a'), back(1, 2)}, lits("aaa")},
		{"aaaa", []api.Token{lit('a'), back(1, 3)}, []api.Token{lit('a'), back(1, 3)}},
		{"ababab", []api.Token{lit('a'), lit('b'), back(2, 4)}, []api.Token{lit('a'), lit('b'), back(2, 4)}},
		{"abxab", append(lits("abx"), back(3, 2)), lits("abxab")},
		{"abcxabc", append(lits("abcx"), back(4, 3)), append(lits("abcx"), back(4, 3))},
		{ // the nearest one
			"abcxabcyabc",
			append(lits("abcx"), back(4, 3), lit('y'), back(4, 3)),
			append(lits("abcx"), back(4, 3), lit('y'), back(4, 3)),
		},
		{ // lazily
			"ab, bcde, abcde",
			append(lits("ab, bcde"), back(6, 2), lit('a'), back(7, 4)),
			append(lits("ab, bcde, a"), back(7, 4)),
		},
		{
			"abc, bcdef, abcdef",
			append(lits("abc, "), back(4, 2), lit('d'), lit('e'), lit('f'), back(7, 2), lit('a'), back(8, 5)),
			append(lits("abc, bcdef, a"), back(8, 5)),
		},
	} {
		for _, k := range kinds {
			want := c.eight
			if k.trees {
				want = c.trees
			}
			wantTokens(t, []byte(c.text), k, want)
		}
	}
}

// P16.1: the dictionary's size is the window, to the byte.
func TestTokensWindow(t *testing.T) {
	for _, k := range kinds {
		for more := range 3 {
			text := "abc" + strings.Repeat("x", k.window-3+more) + "abc"
			l := Tokens([]byte(text), k.large, k.trees)
			want := []api.Token{back(k.window, 3)}
			if more > 0 {
				want = lits("abc")
			}
			if got := l[len(l)-len(want):]; !slices.Equal(got, want) {
				t.Error(k, more, got)
			}
			wantTokens(t, []byte(text), k, tokensPlainly([]byte(text), k))
		}
	}
}

// P16.1: the greatest length is the least one and 318, to the byte.
func TestTokensMost(t *testing.T) {
	for _, k := range kinds {
		for n := 1; n < k.least; n++ { // too few are left for one more copy
			text := bytes.Repeat([]byte("a"), 1+k.most+n)
			wantTokens(t, text, k, append([]api.Token{lit('a'), back(1, k.most)}, lits(strings.Repeat("a", n))...))
		}
		for _, n := range []int{k.least, k.least + 1, 100, k.most - 1, k.most} {
			text := bytes.Repeat([]byte("a"), 1+k.most+n)
			wantTokens(t, text, k, []api.Token{lit('a'), back(1, k.most), back(1, n)})
		}
		wantTokens(t, bytes.Repeat([]byte("a"), k.most), k, []api.Token{lit('a'), back(1, k.most-1)})
	}
}

// P16.1: 64 places are looked at, and no more.
func TestTokensChain(t *testing.T) {
	for _, k := range kinds {
		for _, between := range []int{0, 1, 62, 63, 64, 65, 100} {
			text := []byte("abcd")
			for i := range between {
				text = append(text, "abc"...)
				text = append(text, byte(128+i))
			}
			text = append(text, "abcd"...)
			want := []api.Token{back(4*(1+between), 4)}
			if between > 63 {
				want = []api.Token{back(4, 3), lit('d')}
			}
			l := Tokens(text, k.large, k.trees)
			if got := l[len(l)-len(want):]; !slices.Equal(got, want) {
				t.Error(k, between, got)
			}
		}
	}
}

// P16.1: thrown texts, longer ones than the window, too.
func TestTokensThrown(t *testing.T) {
	d := dice(161)
	for _, k := range kinds {
		for n := range 40 {
			for _, b := range d.texts(n * n / 3) {
				wantTokens(t, b, k, tokensPlainly(b, k))
			}
		}
		for _, b := range [][]byte{d.bytes(9500, 256), d.bytes(9500, 20), d.prose(9500), d.patchwork(30000)} {
			l := tokensPlainly(b, k)
			wantTokens(t, b, k, l)
			text, e := token.Expand(l, k.window, len(b), false)
			if !bytes.Equal(text, b) || e != api.OK {
				t.Fatal(k, e)
			}
		}
	}
}

// P16.1, R3, R4
func TestTokensAreNewMemory(t *testing.T) {
	for _, k := range kinds {
		b := []byte("abcabc")
		one, two := Tokens(b, k.large, k.trees), Tokens(b, k.large, k.trees)
		clear(one)
		_ = append(one, lit('x'))
		clear(b)
		if !slices.Equal(two, append(lits("abc"), back(3, 3))) {
			t.Fatal(k, two)
		}
	}
}

// P16.2: of no tokens all words of a tree are of one length.
func TestTreesOfNothing(t *testing.T) {
	for _, k := range kinds {
		want := [3][]int{nil, slices.Repeat([]int{6}, 64), slices.Repeat([]int{6}, 64)}
		if k.trees {
			want[0] = slices.Repeat([]int{8}, 256)
		}
		wantTrees(t, nil, k, want)
		wantTrees(t, []api.Token{}, k, want)
	}
}

// times answers how often a number stands in a list.
func times(l []int, n int) int {
	return len(l) - len(slices.DeleteFunc(slices.Clone(l), func(m int) bool { return m == n }))
}

// P16.2: trees written out. Which of the symbols that come as often has the longer word is free.
func TestTreesByHand(t *testing.T) {
	for _, k := range kinds {
		l := append(lits("aaab"), back(1, k.least), back(1, k.least), back(1, k.least), back(k.window, k.most))
		bytes, lengths, distances, e := Trees(l, k.large, k.trees)
		if e != api.OK {
			t.Fatal(e)
		}
		for _, tree := range [][]int{lengths, distances} { // two words, and below a third one 62
			if tree[0] != 1 || tree[63] != 2 || len(tree) != 64 || times(tree, 7) != 2 || times(tree, 8) != 60 {
				t.Error(k, tree)
			}
		}
		if !k.trees && len(bytes) > 0 {
			t.Error(k, bytes)
		}
		if k.trees && (bytes['a'] != 1 || bytes['b'] != 2 || len(bytes) != 256 || times(bytes, 9) != 2 || times(bytes, 10) != 252) {
			t.Error(k, bytes)
		}
	}
}

// P16.2: what does not come weighs 1, what comes once 1025: 63 that do not come weigh less than one that does, but
// have words, too.
func TestTreesWeights(t *testing.T) {
	for _, k := range kinds {
		var l []api.Token
		for x := range 32 {
			l = append(l, back(1+x<<k.low, k.least+x))
		}
		_, lengths, distances, _ := Trees(l, k.large, k.trees)
		for _, tree := range [][]int{lengths, distances} {
			// 33 weights, of which the least one is that of 32 symbols, which have five bits more.
			if times(tree, 5) != 31 || times(tree, 6) != 1 || times(tree, 11) != 32 {
				t.Error(k, tree)
			}
		}
		f := append(slices.Repeat([]int{1025}, 32), slices.Repeat([]int{1}, 32)...)
		want, _ := limit.Lengths(f, 16)
		if !slices.Equal(lengths, want) || !slices.Equal(distances, want) {
			t.Error(k, lengths, distances)
		}
	}
}

// wantSymbols asks that a copy be told by two symbols: each has the one word of one bit then.
func wantSymbols(t *testing.T, k kind, c api.Token, length, distance int) {
	t.Helper()
	_, lengths, distances, e := Trees([]api.Token{c}, k.large, k.trees)
	if e != api.OK || lengths[length] != 1 || distances[distance] != 1 {
		t.Fatal(k, c, lengths, distances, e)
	}
}

// P16.2: the symbols of all lengths and distances.
func TestTreesSymbols(t *testing.T) {
	for _, k := range kinds {
		for n := k.least; n <= k.most; n++ {
			wantSymbols(t, k, back(1, n), min(n-k.least, 63), 0)
		}
		for dist := 1; dist <= k.window; dist++ {
			if rest := dist % (1 << k.low); rest < 3 || rest > 1<<k.low-3 || rest == 40 {
				wantSymbols(t, k, back(dist, k.least), 0, (dist-1)/(1<<k.low))
			}
		}
	}
	wantSymbols(t, kinds[0], back(64, 2), 0, 0)
	wantSymbols(t, kinds[0], back(65, 65), 63, 1)
	wantSymbols(t, kinds[0], back(4096, 320), 63, 63)
	wantSymbols(t, kinds[3], back(128, 3), 0, 0)
	wantSymbols(t, kinds[3], back(129, 65), 62, 1)
	wantSymbols(t, kinds[3], back(8192, 66), 63, 63)
}

// P16.2: each byte has its word.
func TestTreesBytes(t *testing.T) {
	for _, k := range kinds {
		for c := range 256 {
			bytes, _, _, e := Trees([]api.Token{lit(byte(c))}, k.large, k.trees)
			if e != api.OK || k.trees && bytes[c] != 1 || !k.trees && len(bytes) > 0 {
				t.Fatal(k, c, bytes, e)
			}
		}
	}
}

// tokens are thrown ones of a kind; low symbols come more often.
func (d *dice) tokens(k kind, n int) []api.Token {
	var l []api.Token
	for range n {
		switch d.below(3) {
		case 0:
			l = append(l, back(1+d.below(1+d.below(k.window)), k.least+d.below(1+d.below(319))))
		case 1:
			l = append(l, back(1+d.below(k.window), k.least+d.below(1+d.below(5))))
		default:
			l = append(l, lit(byte(d.below(1+d.below(256)))))
		}
	}
	return l
}

// P16.2: thrown tokens, which need not tell anything.
func TestTreesThrown(t *testing.T) {
	d := dice(162)
	for range 300 {
		for _, k := range kinds {
			l := d.tokens(k, d.below(1+d.below(2000)))
			wantTrees(t, l, k, treesPlainly(l, k))
		}
	}
}

// rabbits are so many tokens of each as Fibonacci had, so that the best words were as many bits long as there are tokens.
func rabbits(some []api.Token) []api.Token {
	var l []api.Token
	one, two := 1, 1
	for _, t := range some {
		l = append(l, slices.Repeat([]api.Token{t}, one)...)
		one, two = two, one+two
	}
	return l
}

// P16.2: words have 16 bits at most.
func TestTreesDeep(t *testing.T) {
	for _, k := range kinds {
		var bytes, lengths, distances []api.Token
		for x := range 23 {
			bytes = append(bytes, lit(byte(10*x)))
			lengths = append(lengths, back(1, k.most-3*x), back(1, k.least+2*x))
			distances = append(distances, back(1+2*x<<k.low, k.least))
		}
		for i, some := range [][]api.Token{bytes, lengths[22:45], distances} {
			l := rabbits(some)
			want := treesPlainly(l, k)
			if (k.trees || i > 0) && slices.Max(want[i]) != 16 {
				t.Error(k, i, want[i])
			}
			wantTrees(t, l, k, want)
		}
	}
}

// P16.2: numbers that no token of the kind has, wherever it stands.
func TestTreesTakeTokens(t *testing.T) {
	for _, k := range kinds {
		var wrong []api.Token
		for _, n := range []int{-1, -2, -k.least, 1, k.least - 1, k.most + 1, k.most + 2, 512, math.MinInt, math.MaxInt} {
			wrong = append(wrong, back(1, n), back(k.window, n))
		}
		for _, dist := range []int{0, -1, -2, -k.window, k.window + 1, k.window + 2, 65536, math.MinInt, math.MaxInt} {
			wrong = append(wrong, back(dist, k.least), back(dist, k.most))
		}
		for _, dist := range []int{-1, 1, 2, k.window, math.MinInt, math.MaxInt} {
			wrong = append(wrong, api.Token{Lit: 'a', Dist: dist})
		}
		right := append(lits("duffel"), back(6, 12), back(1, k.most), back(k.window, k.least))
		wantTrees(t, right, k, treesPlainly(right, k))
		for _, w := range wrong {
			wantWrong(t, []api.Token{w}, k)
			for i := range len(right) + 1 {
				wantWrong(t, slices.Insert(slices.Clone(right), i, w), k)
			}
		}
	}
	for _, k := range kinds[2:] {
		wantWrong(t, []api.Token{back(1, 2)}, k) // which is right without trees
	}
	for _, k := range kinds {
		if !k.large {
			wantWrong(t, []api.Token{back(8192, 3)}, k) // which is right, if the dictionary is large
		}
	}
}

// P16.2, R3, R4
func TestTreesAreNewMemory(t *testing.T) {
	for _, k := range kinds {
		l := Tokens([]byte("abcabc"), k.large, k.trees)
		want := treesPlainly(l, k)
		one, two, three, _ := Trees(l, k.large, k.trees)
		for _, tree := range [][]int{one, two, three} {
			_ = append(tree, 99)
		}
		for i, tree := range [][]int{one, two, three} {
			if !slices.Equal(tree, want[i]) {
				t.Fatal(k, tree)
			}
			clear(tree)
		}
		wantTrees(t, l, k, want)
	}
}

// P16.3
func TestEncodeNothing(t *testing.T) {
	for _, k := range kinds {
		wantStream(t, nil, k, nil)
		wantStream(t, []byte{}, k, nil)
	}
}

// handTree is a tree of 64 words of six bits, handBytes one of 256 words of eight: of a symbol all bits turned,
// the highest first.
const (
	handTree  = "\x03\xf5\xf5\xf5\xf5"
	handBytes = "\x0f\xf7\xf7\xf7\xf7\xf7\xf7\xf7\xf7\xf7\xf7\xf7\xf7\xf7\xf7\xf7\xf7"
)

// P16.3: texts without copies, written out.
func TestEncodeByHand(t *testing.T) {
	for _, k := range kinds[:2] {
		for text, bits := range map[string][]string{
			"a":    {"1", "10000110"},
			"\x00": {"1", "00000000"},
			"\xff": {"1", "11111111"},
			"ab":   {"1", "10000110", "1", "01000110"},
			"aa":   {"1", "10000110", "1", "10000110"},
		} {
			wantStream(t, []byte(text), k, append([]byte(handTree+handTree), packed(bits...)...))
		}
	}
	var all []byte
	var bits strings.Builder
	for c := range 256 {
		all = append(all, byte(c))
		bits.WriteString("1")
		for i := range 8 {
			bits.WriteString(spell(1-c>>(7-i)&1, 1))
		}
	}
	for _, k := range kinds[2:] { // each byte comes once, so that their words are of one length
		wantStream(t, all, k, append([]byte(handBytes+handTree+handTree), packed(bits.String())...))
	}
}

// lone is a tree of so many symbols, of which one comes once. That one has a word of one bit, which is 1, as it is
// the last one to be given out.
func lone(symbols, one int) []byte {
	f := slices.Repeat([]int{1}, symbols)
	f[one] = 1025
	l, _ := limit.Lengths(f, 16)
	return rowsOf(l)
}

// P16.3: runs, written out: a byte, and a copy of any length from distance 1.
func TestEncodeRunsByHand(t *testing.T) {
	for _, k := range kinds {
		for n := k.least; n <= k.most; n++ {
			symbol, more := n-k.least, ""
			if symbol >= 63 {
				symbol, more = 63, spell(n-k.least-63, 8)
			}
			head, word := []byte(nil), "10000110"
			if k.trees {
				head, word = lone(256, 'a'), "1"
			}
			head = slices.Concat(head, lone(64, symbol), lone(64, 0))
			bits := packed("1", word, "0", strings.Repeat("0", k.low), "1", "1", more)
			wantStream(t, bytes.Repeat([]byte("a"), 1+n), k, append(head, bits...))
		}
	}
}

// P16.3: a copy from far away, written out: low bits, and those above them.
func TestEncodeFarByHand(t *testing.T) {
	k := kinds[0]
	text := []byte("?!" + strings.Repeat("a", 321) + strings.Repeat("b", 321) + "?!")
	// 644 back: 643 is 3 of the lowest six bits, and ten times 64.
	f := slices.Repeat([]int{1}, 64)
	f[0] += 2 * 1024
	f[10] += 1024
	distances, _ := limit.Lengths(f, 16)
	f = slices.Repeat([]int{1}, 64)
	f[63] += 2 * 1024
	f[0] += 1024
	lengths, _ := limit.Lengths(f, 16)
	run := "0" + "000000" + "1" + "1" + "11111111"
	bits := packed("1", "11111100", "1", "10000100", "1", "10000110", run, "1", "01000110", run, "0", "110000", "01", "01")
	wantStream(t, text, k, slices.Concat(rowsOf(lengths), rowsOf(distances), bits))
}

// P16.3, P16.4: thrown texts, bit by bit.
func TestEncodeThrown(t *testing.T) {
	d := dice(163)
	for _, k := range kinds {
		for n := range 60 {
			for _, b := range d.texts(n * n / 2) {
				wantStream(t, b, k, streamPlainly(Tokens(b, k.large, k.trees), k))
			}
		}
	}
}

// P16.3, P16.4: copies of all lengths, from all distances up to the greatest.
func TestEncodeAllCopies(t *testing.T) {
	d := dice(164)
	for _, k := range kinds {
		b := d.bytes(2*k.window, 256)
		for n := k.least; n <= k.most; n++ {
			from := len(b) - n - d.below(k.window-n)
			b = append(b, b[from:from+n]...)
			b = append(b, d.bytes(1, 256)...)
		}
		for dist := k.window; dist > 8; dist -= 37 {
			b = append(b, b[len(b)-dist:len(b)-dist+8]...)
			b = append(b, d.bytes(1, 256)...)
		}
		l := Tokens(b, k.large, k.trees)
		wantStream(t, b, k, streamPlainly(l, k))
		for i, tree := range treesPlainly(l, k) {
			if i > 0 && slices.Max(tree) > 12 { // a symbol that does not come has more
				t.Error(k, i, tree)
			}
		}
	}
}

// P16.4: all short texts of few bytes.
func TestEncodeShort(t *testing.T) {
	for _, k := range kinds {
		row := [][]byte{nil}
		for range 6 {
			var next [][]byte
			for _, b := range row {
				wantBack(t, b, k)
				for _, c := range []byte("ab\x00") {
					next = append(next, append(slices.Clone(b), c))
				}
			}
			row = next
		}
	}
}

// P16.4: texts that are hard to tell shortly: each piece of them is found, but as short and as far away as may be.
func TestEncodeHard(t *testing.T) {
	d := dice(165)
	for _, k := range kinds {
		for _, letters := range []int{2, 5, 12, 30, 60, 90, 256} {
			wantBack(t, d.bytes(3*k.window, letters), k)
		}
		var b []byte
		for range 4 {
			pieces := make([][]byte, 0, k.window/k.least)
			for x := range cap(pieces) {
				pieces = append(pieces, []byte{byte(x), byte(x >> 8), 'x'}[:k.least])
			}
			for len(pieces) > 0 {
				i := d.below(len(pieces))
				b = append(b, pieces[i]...)
				pieces = slices.Delete(pieces, i, i+1)
			}
		}
		wantBack(t, b, k)
	}
}

// P16.4: long texts.
func TestEncodeLong(t *testing.T) {
	d := dice(166)
	for _, k := range kinds {
		for _, b := range [][]byte{d.prose(200000), d.patchwork(200000), d.bytes(60000, 256), bytes.Repeat([]byte("duffel"), 50000)} {
			wantBack(t, b, k)
		}
	}
}

// P16.3, R3, R4
func TestEncodedIsNewMemory(t *testing.T) {
	for _, k := range kinds {
		b := []byte("abcabcabc")
		one := Encode(b, k.large, k.trees)
		two := Encode(b, k.large, k.trees)
		want := slices.Clone(two)
		clear(one)
		_ = append(one, 'y')
		clear(b)
		if !bytes.Equal(two, want) {
			t.Fatal(two)
		}
	}
}
