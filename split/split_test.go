package split

import (
	"bytes"
	"compress/flate"
	"io"
	"math"
	"slices"
	"testing"

	"duffel/api"
	"duffel/bitio"
	"duffel/canon"
	"duffel/dyn"
	"duffel/finder"
	"duffel/inflate"
	"duffel/limit"
	"duffel/token"
)

// dice is a row of numbers that look thrown, and are the same in every run.
type dice uint64

func (d *dice) below(n int) int {
	*d = *d*6364136223846793005 + 1442695040888963407
	return int(uint64(*d)>>33) % n
}

func both(f func(large bool)) {
	f(false)
	f(true)
}

func lit(c byte) api.Token       { return api.Token{Lit: c} }
func back(dist, n int) api.Token { return api.Token{Dist: dist, Len: n} }

func lits(text string) []api.Token {
	var l []api.Token
	for _, c := range []byte(text) {
		l = append(l, lit(c))
	}
	return l
}

// cycle are n tokens: the bytes 0 to of - 1, again and again.
func cycle(n, of int) []api.Token {
	l := make([]api.Token, n)
	for i := range l {
		l[i] = lit(byte(i % of))
	}
	return l
}

// mostLen and mostDist are the greatest that have codes.
func mostLen(large bool) int {
	if large {
		return 65538
	}
	return 258
}

func mostDist(large bool) int {
	if large {
		return 65536
	}
	return 32768
}

// howMany answers how many symbols the two lists have.
func howMany(large bool) (int, int) {
	if large {
		return 286, 32
	}
	return 286, 30
}

// from is the least number that a code stands for, and how many bits stand behind.
type from struct{ least, bits int }

// lengthTable is the table of RFC 1951, 3.2.5, from code 257 on; large is Deflate64's.
func lengthTable(large bool) []from {
	l := []from{
		{3, 0}, {4, 0}, {5, 0}, {6, 0}, {7, 0}, {8, 0}, {9, 0}, {10, 0},
		{11, 1}, {13, 1}, {15, 1}, {17, 1},
		{19, 2}, {23, 2}, {27, 2}, {31, 2},
		{35, 3}, {43, 3}, {51, 3}, {59, 3},
		{67, 4}, {83, 4}, {99, 4}, {115, 4},
		{131, 5}, {163, 5}, {195, 5}, {227, 5},
		{258, 0},
	}
	if large {
		l[28] = from{258, 16} // from 3 on, but those below have codes of their own
	}
	return l
}

// distanceTable is the table of RFC 1951, 3.2.5, and with large the two codes of Deflate64 behind.
func distanceTable(large bool) []from {
	l := []from{
		{1, 0}, {2, 0}, {3, 0}, {4, 0}, {5, 1}, {7, 1}, {9, 2}, {13, 2}, {17, 3}, {25, 3},
		{33, 4}, {49, 4}, {65, 5}, {97, 5}, {129, 6}, {193, 6}, {257, 7}, {385, 7}, {513, 8}, {769, 8},
		{1025, 9}, {1537, 9}, {2049, 10}, {3073, 10}, {4097, 11}, {6145, 11}, {8193, 12}, {12289, 12}, {16385, 13}, {24577, 13},
	}
	if large {
		l = append(l, from{32769, 14}, from{49153, 14})
	}
	return l
}

// The tables, made once: they are asked for each token.
var (
	lengthTables   = map[bool][]from{false: lengthTable(false), true: lengthTable(true)}
	distanceTables = map[bool][]from{false: distanceTable(false), true: distanceTable(true)}
)

// at answers the place in a table of what stands for a number, which is one of those that have a code.
func at(table []from, n int) int {
	i := len(table) - 1
	for table[i].least > n {
		i--
	}
	return i
}

// mayBe tells by the words of P19.1 whether a token may be.
func mayBe(t api.Token, large bool) bool {
	if t.Len == 0 {
		return true
	}
	return t.Len >= 3 && t.Len <= mostLen(large) && t.Dist >= 1 && t.Dist <= mostDist(large)
}

// symbolsOf answers the symbols of a token that may be (no distance: -1), and how many bits stand behind codes.
func symbolsOf(t api.Token, large bool) (int, int, int) {
	if t.Len == 0 {
		return int(t.Lit), -1, 0
	}
	lengths, dists := lengthTables[large], distanceTables[large]
	n, d := at(lengths, t.Len), at(dists, t.Dist)
	return 257 + n, d, lengths[n].bits + dists[d].bits
}

// timesPlainly answers how often each symbol comes in tokens that may be.
func timesPlainly(l []api.Token, large bool) ([]int, []int) {
	n, m := howMany(large)
	first, second := make([]int, n), make([]int, m)
	for _, t := range l {
		s, d, _ := symbolsOf(t, large)
		first[s]++
		if d >= 0 {
			second[d]++
		}
	}
	first[256]++
	return first, second
}

func listsPlainly(l []api.Token, large bool) ([]int, []int) {
	first, second := timesPlainly(l, large)
	one, _ := limit.Lengths(first, 15)
	two, _ := limit.Lengths(second, 15)
	return one, two
}

// word answers the length of a symbol's word.
func word(l []int, symbol int) int {
	if symbol < 0 || symbol >= len(l) {
		return 0
	}
	return l[symbol]
}

func bitsPlainly(l []api.Token, first, second []int, large bool) int {
	sum := word(first, 256)
	for _, t := range l {
		s, d, more := symbolsOf(t, large)
		sum += word(first, s) + word(second, d) + more
	}
	return sum
}

// fixedPlainly are the lengths of the fixed codes' words, by RFC 1951, 3.2.6.
func fixedPlainly() ([]int, []int) {
	var first []int
	for s := range 288 {
		switch {
		case s < 144 || s >= 280:
			first = append(first, 8)
		case s < 256:
			first = append(first, 9)
		default:
			first = append(first, 7)
		}
	}
	return first, slices.Repeat([]int{5}, 32)
}

// costsPlainly answers what each kind costs, by the words of P19.3.
func costsPlainly(l []api.Token, large bool) [3]int {
	n := 0
	for _, t := range l {
		n += max(1, t.Len)
	}
	pieces := 1
	for left := n; left > 65535; left -= 65535 {
		pieces++
	}
	first, second := fixedPlainly()
	one, two := listsPlainly(l, large)
	return [3]int{
		8*n + 42*pieces,
		3 + bitsPlainly(l, first, second, large),
		3 + dyn.Cost(one, two) + bitsPlainly(l, one, two, large),
	}
}

func bestPlainly(l []api.Token, large bool) (int, int) {
	costs := costsPlainly(l, large)
	best := 0
	for kind, cost := range costs {
		if cost < costs[best] {
			best = kind
		}
	}
	return best, costs[best]
}

// pieces are the pieces of P19.4.
func pieces(l []api.Token) [][]api.Token { return slices.Collect(slices.Chunk(l, 1024)) }

// blocksPlainly answers blocks by the words of P19.4.
func blocksPlainly(l []api.Token, large bool) []int {
	if len(l) == 0 {
		return []int{0}
	}
	var blocks [][]api.Token
	for _, piece := range pieces(l) {
		if len(blocks) > 0 {
			ahead := blocks[len(blocks)-1]
			together := slices.Concat(ahead, piece)
			_, one := bestPlainly(ahead, large)
			_, other := bestPlainly(piece, large)
			if _, cost := bestPlainly(together, large); cost <= one+other {
				blocks[len(blocks)-1] = together
				continue
			}
		}
		blocks = append(blocks, piece)
	}
	var sizes []int
	for _, b := range blocks {
		sizes = append(sizes, len(b))
	}
	return sizes
}

// said is a list of n lengths: 0, but those that are said, place by place.
func said(n int, places ...int) []int {
	l := make([]int, n)
	for pair := range slices.Chunk(places, 2) {
		l[pair[0]] = pair[1]
	}
	return l
}

func wantLists(t *testing.T, l []api.Token, large bool, first, second []int) {
	t.Helper()
	one, two := Lists(l, large)
	if !slices.Equal(one, first) || !slices.Equal(two, second) {
		t.Fatalf("Lists(%v, %v): %v, %v; want %v, %v", few(l), large, one, two, first, second)
	}
}

func wantBits(t *testing.T, l []api.Token, first, second []int, large bool, want int) {
	t.Helper()
	if n := Bits(l, first, second, large); n != want {
		t.Fatalf("Bits(%v, %v, %v, %v): %d; want %d", few(l), first, second, large, n, want)
	}
}

func wantBest(t *testing.T, l []api.Token, large bool, kind, cost int) {
	t.Helper()
	if k, n := Best(l, large); k != kind || n != cost {
		t.Fatalf("Best(%v, %v): %d, %d; want %d, %d", few(l), large, k, n, kind, cost)
	}
}

func wantBlocks(t *testing.T, l []api.Token, large bool, want ...int) {
	t.Helper()
	if b := Blocks(l, large); !slices.Equal(b, want) {
		t.Fatalf("Blocks(%v, %v): %v; want %v", few(l), large, b, want)
	}
}

// few are so many of tokens as one likes to read.
func few(l []api.Token) []api.Token { return l[:min(len(l), 8)] }

// wantNone asks that all calls say that tokens may not be.
func wantNone(t *testing.T, l []api.Token, large bool) {
	t.Helper()
	wantLists(t, l, large, nil, nil)
	first, second := inflate.Fixed()
	wantBits(t, l, first, second, large, 0)
	wantBest(t, l, large, 0, 0)
	wantBlocks(t, l, large)
}

// wantPlain holds all calls against those by the chapter's words.
func wantPlain(t *testing.T, l []api.Token, large bool) {
	t.Helper()
	first, second := listsPlainly(l, large)
	wantLists(t, l, large, first, second)
	wantBits(t, l, first, second, large, bitsPlainly(l, first, second, large))
	kind, cost := bestPlainly(l, large)
	wantBest(t, l, large, kind, cost)
	wantBlocks(t, l, large, blocksPlainly(l, large)...)
}

// P19.1: of no tokens the end alone comes.
func TestListsOfNothing(t *testing.T) {
	for _, l := range [][]api.Token{nil, {}} {
		wantLists(t, l, false, said(286, 256, 1), make([]int, 30))
		wantLists(t, l, true, said(286, 256, 1), make([]int, 32))
	}
}

// P19.1
func TestListsByHand(t *testing.T) {
	both(func(large bool) {
		n, m := howMany(large)
		wantLists(t, lits("a"), large, said(n, 'a', 1, 256, 1), make([]int, m))
		wantLists(t, []api.Token{back(1, 3)}, large, said(n, 257, 1, 256, 1), said(m, 0, 1))
		// a 4 times, b twice, the end and a copy once each; one distance
		wantLists(t, append(lits("aabaab"), back(3, 3)), large,
			said(n, 'a', 1, 'b', 2, 256, 3, 257, 3), said(m, 2, 1))
		// distances of 5 and 6 are one code, of 7 another one; lengths of 11 and 12 likewise
		wantLists(t, []api.Token{back(5, 11), back(6, 12), back(7, 12), back(8, 11)}, large,
			said(n, 265, 1, 256, 1), said(m, 4, 1, 5, 1))
		// four distances, as often as one another
		wantLists(t, []api.Token{lit(0), lit(255), lit(255), back(1, 3), back(2, 3), back(3, 3), back(4, 3)}, large,
			said(n, 257, 1, 255, 2, 256, 3, 0, 3), said(m, 0, 2, 1, 2, 2, 2, 3, 2))
	})
}

// P19.1: each byte is a symbol.
func TestListsEveryByte(t *testing.T) {
	both(func(large bool) {
		n, m := howMany(large)
		for c := range 256 {
			wantLists(t, []api.Token{lit(byte(c))}, large, said(n, c, 1, 256, 1), make([]int, m))
		}
	})
}

// P19.1: each length has the symbol of its code; there are none below and above.
func TestListsEveryLength(t *testing.T) {
	both(func(large bool) {
		n, m := howMany(large)
		for k := 3; k <= mostLen(large); k++ {
			if k > 300 && k < 65000 && k%17 != 0 {
				continue
			}
			code := 257 + at(lengthTables[large], k)
			wantLists(t, []api.Token{back(1, k)}, large, said(n, code, 1, 256, 1), said(m, 0, 1))
		}
	})
}

// P19.1: likewise each distance.
func TestListsEveryDistance(t *testing.T) {
	both(func(large bool) {
		n, m := howMany(large)
		for dist := 1; dist <= mostDist(large); dist++ {
			code := at(distanceTables[large], dist)
			if dist > 1000 && dist < mostDist(large) && dist%13 != 0 && code == at(distanceTables[large], dist-1) && code == at(distanceTables[large], dist+1) {
				continue
			}
			wantLists(t, []api.Token{back(dist, 3)}, large, said(n, 257, 1, 256, 1), said(m, code, 1))
		}
	})
}

// rabbits are tokens of which each comes as often as both ahead of it together.
func rabbits(kinds []api.Token) []api.Token {
	var l []api.Token
	one, two := 1, 2 // the end of a block is a further one that comes once
	for _, t := range kinds {
		l = append(l, slices.Repeat([]api.Token{t}, one)...)
		one, two = two, one+two
	}
	return l
}

// P19.1: words have 15 bits at most, of bytes as of distances.
func TestListsDeep(t *testing.T) {
	both(func(large bool) {
		l := rabbits(cycle(20, 20))
		one, _ := Lists(l, large)
		for i, x := range l {
			l[i] = back(distanceTable(large)[x.Lit].least, 3)
		}
		_, two := Lists(l, large)
		if slices.Max(one) != 15 || slices.Max(two) != 15 {
			t.Fatal(one, two)
		}
		l = slices.Concat(l, rabbits(cycle(20, 20)))
		first, second := listsPlainly(l, large)
		wantLists(t, l, large, first, second)
	})
}

// P19.1: a Len of 0 makes a byte, whatever the Dist is; a copy's Lit is nothing.
func TestBytesAndCopies(t *testing.T) {
	both(func(large bool) {
		for _, dist := range []int{math.MinInt, -1, 1, 5, 65537, math.MaxInt} {
			l := []api.Token{{Lit: 'a', Dist: dist}, {Lit: 'x', Dist: 9, Len: 20}}
			wantPlain(t, l, large)
			n, m := howMany(large)
			wantLists(t, l, large, said(n, 'a', 2, 256, 2, 269, 1), said(m, 6, 1))
			wantBits(t, l, said(n, 'a', 3, 256, 5, 269, 7, 'x', 99), said(m, 6, 11), large, 3+7+2+11+2+5)
		}
	})
}

// wrongs are tokens that may not be.
func wrongs(large bool) []api.Token {
	var l []api.Token
	for _, n := range []int{math.MinInt, -65536, -3, -1, 1, 2, mostLen(large) + 1, 65539, 1 << 32, 1<<32 + 3, math.MaxInt} {
		l = append(l, back(1, n), back(mostDist(large), n), back(0, n))
	}
	for _, dist := range []int{math.MinInt, -32768, -1, 0, mostDist(large) + 1, 65537, 1 << 32, 1<<32 + 1, math.MaxInt} {
		l = append(l, back(dist, 3), back(dist, mostLen(large)), back(dist, 100))
	}
	return l
}

// P19.1 to P19.4: a token that may not be, wherever it stands, and whatever the others are.
func TestWrongTokens(t *testing.T) {
	both(func(large bool) {
		for _, wrong := range wrongs(large) {
			if mayBe(wrong, large) {
				t.Fatal(wrong)
			}
			wantNone(t, []api.Token{wrong}, large)
			for _, n := range []int{1, 5, 1023, 1024, 2049} {
				for _, place := range []int{0, 1, n / 2, n - 1, n} {
					wantNone(t, slices.Insert(cycle(n, 7), place, wrong), large)
				}
			}
			wantNone(t, []api.Token{back(1, 3), wrong, back(1, 3)}, large)
			wantNone(t, []api.Token{wrong, wrong}, large)
		}
	})
}

// P19.1: what Deflate64 alone may have.
func TestLargeTokens(t *testing.T) {
	for _, x := range []api.Token{back(1, 259), back(1, 65538), back(32769, 3), back(65536, 3), back(65536, 65538)} {
		wantNone(t, []api.Token{x}, false)
		wantPlain(t, []api.Token{x}, true)
	}
	for _, x := range []api.Token{back(1, 3), back(1, 258), back(32768, 3), back(32768, 258)} {
		both(func(large bool) { wantPlain(t, []api.Token{x}, large) })
	}
}

// P19.2
func TestBitsByHand(t *testing.T) {
	l := append(lits("ab"), back(2, 5))
	both(func(large bool) {
		wantBits(t, nil, nil, nil, large, 0)
		wantBits(t, nil, said(257, 256, 6), nil, large, 6) // the end of no tokens
		wantBits(t, l, said(286, 'a', 2, 'b', 3, 256, 5, 259, 7), said(30, 1, 11), large, 2+3+5+7+11)
		wantBits(t, l, said(286, 'a', 2, 'b', 3, 'c', 50, 256, 5, 259, 7, 260, 50), said(30, 0, 50, 1, 11, 2, 50), large, 2+3+5+7+11)
		wantBits(t, append(l, l...), said(286, 'a', 2, 'b', 3, 256, 5, 259, 7), said(30, 1, 11), large, 2*(2+3+7+11)+5)
		// a length of 227 to 257 has 5 bits behind, a distance of 24577 on 13
		far := []api.Token{back(24577, 227), back(32768, 257)}
		wantBits(t, far, said(286, 256, 1, 284, 2), said(30, 29, 4), large, 2*(2+5+4+13)+1)
		wantBits(t, far, nil, nil, large, 2*(5+13))
	})
	// 258 has no bits behind, but 16 with large
	wantBits(t, []api.Token{back(1, 258)}, said(286, 285, 4, 256, 2), said(1, 0, 1), false, 4+2+1)
	wantBits(t, []api.Token{back(1, 258)}, said(286, 285, 4, 256, 2), said(1, 0, 1), true, 4+2+1+16)
	wantBits(t, []api.Token{back(65536, 65538)}, said(286, 285, 4, 256, 2), said(32, 31, 9), true, 4+2+9+16+14)
	wantBits(t, []api.Token{back(49152, 259)}, said(286, 285, 4, 256, 2), said(32, 30, 8, 31, 9), true, 4+2+8+16+14)
}

// P19.2: what stands behind the codes of all lengths, of all distances.
func TestBitsBehind(t *testing.T) {
	both(func(large bool) {
		for i, x := range lengthTable(large) {
			for _, n := range []int{x.least, min(x.least+1<<x.bits-1, mostLen(large))} {
				if n == 258 && i < 28 { // which has a code of its own
					n = 257
				}
				wantBits(t, []api.Token{back(1, n)}, nil, nil, large, x.bits)
				wantBits(t, []api.Token{back(1, n)}, said(286, 257+i, 3), nil, large, x.bits+3)
			}
		}
		for i, x := range distanceTable(large) {
			for _, dist := range []int{x.least, x.least + 1<<x.bits - 1} {
				wantBits(t, []api.Token{back(dist, 3)}, nil, nil, large, x.bits)
				wantBits(t, []api.Token{back(dist, 3)}, nil, said(32, i, 3), large, x.bits+3)
			}
		}
	})
}

// P19.2: a symbol behind the ends of the lists has 0 bits; what more the lists have is nothing.
func TestBitsCut(t *testing.T) {
	both(func(large bool) {
		var l []api.Token
		for c := range 256 {
			l = append(l, lit(byte(c)))
		}
		for i := range 29 {
			dists := distanceTable(large)
			l = append(l, back(dists[len(dists)-1-i].least, lengthTable(large)[i].least))
		}
		first, second := make([]int, 300), make([]int, 40)
		for i := range first {
			first[i] = 1000 + i
		}
		for i := range second {
			second[i] = 5000 + i
		}
		for n := range len(first) + 1 {
			wantBits(t, l, first[:n], second, large, bitsPlainly(l, first[:n], second, large))
			wantBits(t, l, first[:n], nil, large, bitsPlainly(l, first[:n], nil, large))
		}
		for n := range len(second) + 1 {
			wantBits(t, l, first, second[:n], large, bitsPlainly(l, first, second[:n], large))
		}
		if Bits(l, first, second, large) != Bits(l, first[:286], second[:32], large) {
			t.Error("what stands behind the symbols")
		}
	})
}

// R1: any lists.
func TestBitsOfAnyLists(t *testing.T) {
	for _, n := range []int{math.MinInt, -1, 1 << 40, math.MaxInt} {
		first, second := slices.Repeat([]int{n}, 300), slices.Repeat([]int{n}, 50)
		wantBits(t, lits("a"), first, second, false, 2*n)
		wantBits(t, []api.Token{back(5, 3)}, first, second, false, 3*n+1)
	}
}

// P19.3: the examples, and others by hand.
func TestBestByHand(t *testing.T) {
	both(func(large bool) {
		wantBest(t, nil, large, 1, 10)
		wantBest(t, lits("a"), large, 1, 18)
		wantBest(t, append(lits("ab"), back(2, 5)), large, 1, 3+8+8+7+5+7)
		wantBest(t, []api.Token{lit(143), lit(144)}, large, 1, 3+8+9+7)
		// lengths of 227 to 257 have words of eight bits and five bits behind, distances 13
		wantBest(t, []api.Token{back(32768, 227)}, large, 1, 3+8+5+5+13+7)
		// bytes as they are, once their words would be longer
		wantBest(t, cycle(1024, 256), large, 0, 8*1024+42)
		// one byte alone, with words of one bit
		kind, cost := Best(slices.Repeat(lits("a"), 1000), large)
		if kind != 2 || cost != 3+dyn.Cost(said(257, 'a', 1, 256, 1), said(1))+1001 {
			t.Error(kind, cost)
		}
	})
	wantBest(t, []api.Token{back(1, 258)}, false, 1, 3+8+5+7)
	wantBest(t, []api.Token{back(1, 258)}, true, 1, 3+8+16+5+7)
	wantBest(t, []api.Token{back(65536, 65538)}, true, 1, 3+8+16+5+14+7)
}

// P19.3: kind 0 where it costs as much as kind 1, which are 32 bytes of words of nine bits.
func TestBestTakesTheLeast(t *testing.T) {
	both(func(large bool) {
		var l []api.Token
		for i := range 40 { // far from one another, so that lengths of their own would cost much
			l = append(l, lit(byte(144+i*i*i%113)))
		}
		for n, want := range map[int][2]int{30: {1, 280}, 31: {1, 289}, 32: {0, 298}, 33: {0, 306}, 40: {0, 362}} {
			wantBest(t, l[:n], large, want[0], want[1])
		}
		costs := costsPlainly(l[:32], large)
		if costs[0] != costs[1] || costs[2] <= costs[1] {
			t.Error(costs)
		}
	})
}

// P19.3: likewise kinds 0 and 2, kinds 1 and 2, by texts of more and more bytes.
func TestBestOfEqualOnes(t *testing.T) {
	both(func(large bool) {
		ties := [3]int{}
		for first := 0; first < 256; first += 8 {
			for of := 1; of < 100; of++ {
				for n := 1; n <= 120; n++ {
					l := make([]api.Token, n)
					for i := range l {
						l[i] = lit(byte(first + i%of*3))
					}
					costs := costsPlainly(l, large)
					least := min(costs[0], costs[1], costs[2])
					for i, pair := range [][2]int{{0, 1}, {0, 2}, {1, 2}} {
						if ties[i] < 5 && costs[pair[0]] == least && costs[pair[1]] == least {
							ties[i]++
							kind, cost := bestPlainly(l, large)
							if kind > pair[0] {
								t.Fatal(kind, costs)
							}
							wantBest(t, l, large, kind, cost)
						}
					}
					if ties == [3]int{5, 5, 5} {
						return
					}
				}
				if of > 40 {
					of += 7
				}
			}
		}
		t.Error("too few of equal cost", ties)
	})
}

// P19.3: how many pieces kind 0 has, by how many bytes are told, whatever tells them.
func TestBestPlainPieces(t *testing.T) {
	both(func(large bool) {
		for _, n := range []int{1000, 65534, 65535, 65536, 131070, 131071, 196605, 196606} {
			k := (n-1)/65535 + 1
			wantBest(t, cycle(n, 256), large, 0, 8*n+42*k)
			// a copy's bytes count as they are many
			wantBest(t, slices.Insert(cycle(n-10, 256), n/2, back(32768, 3), back(32767, 4), back(32768, 3)), large, 0, 8*n+42*k)
		}
	})
}

// P19.3: the least of what the kinds cost, of each length and each distance alone.
func TestBestOfCopies(t *testing.T) {
	both(func(large bool) {
		seen := [3]int{}
		for _, n := range []int{3, 4, 10, 11, 12, 114, 115, 227, 257, 258} {
			for _, x := range distanceTable(large) {
				for times := range 60 {
					l := slices.Repeat([]api.Token{back(x.least, n)}, times)
					kind, cost := bestPlainly(l, large)
					wantBest(t, l, large, kind, cost)
					seen[kind]++
				}
			}
		}
		if seen[1] < 100 || seen[2] < 100 {
			t.Error(seen)
		}
	})
}

// writeWords writes tokens by two codes, and the end.
func writeWords(t *testing.T, w *bitio.Writer, l []api.Token, first, second []int, large bool) {
	t.Helper()
	one, e := canon.Codes(first)
	two, f := canon.Codes(second)
	if e != api.OK || f != api.OK {
		t.Fatal(e, f)
	}
	for _, x := range l {
		s, d, _ := symbolsOf(x, large)
		w.Put(one[s].Bits, one[s].Len)
		if d < 0 {
			continue
		}
		_, n, rest, _ := dyn.LengthCode(x.Len, large)
		w.Put(uint32(rest), n)
		w.Put(two[d].Bits, two[d].Len)
		_, n, rest, _ = dyn.DistanceCode(x.Dist, large)
		w.Put(uint32(rest), n)
	}
	w.Put(one[256].Bits, one[256].Len)
}

// writeBlock writes tokens as a block of a kind.
func writeBlock(t *testing.T, w *bitio.Writer, l []api.Token, text []byte, kind int, last, large bool) {
	t.Helper()
	head := func(last bool) {
		if last {
			w.Put(1, 1)
		} else {
			w.Put(0, 1)
		}
		w.Put(uint32(kind), 2)
	}
	switch kind {
	case 0:
		rest := slices.Collect(slices.Chunk(text, 65535))
		if len(text) == 0 {
			rest = [][]byte{nil}
		}
		for i, piece := range rest {
			head(last && i == len(rest)-1)
			w.Align()
			w.Put(uint32(len(piece)), 16)
			w.Put(uint32(65535-len(piece)), 16)
			w.PutBytes(piece)
		}
	case 1:
		head(last)
		first, second := inflate.Fixed()
		writeWords(t, w, l, first, second, large)
	case 2:
		head(last)
		first, second := Lists(l, large)
		if e := dyn.Write(w, first, second, large); e != api.OK {
			t.Fatal(e)
		}
		writeWords(t, w, l, first, second, large)
	}
}

// texts are some that are told by few tokens and by many, of one kind and of several.
func (d *dice) texts() [][]byte {
	noise := make([]byte, 70000)
	for i := range noise {
		noise[i] = byte(d.below(256))
	}
	var words bytes.Buffer
	for words.Len() < 60000 {
		words.WriteString([]string{"she ", "sells ", "sea ", "shells ", "by the shore, ", "and "}[d.below(6)])
		words.Write(noise[d.below(1000):][:d.below(3)])
	}
	var digits []byte
	for range 30000 {
		digits = append(digits, byte('0'+d.below(10)))
	}
	return [][]byte{nil, []byte("a"), []byte("abcabcabc"), noise, words.Bytes(), digits, make([]byte, 200000),
		slices.Concat(digits, noise[:20000], words.Bytes(), noise[:9000], digits[:10000], make([]byte, 9000), words.Bytes()[:30000])}
}

// tokensOf are a text's tokens.
func tokensOf(b []byte, large bool) []api.Token {
	s := api.Shape{Window: mostDist(large), Min: 3, Max: mostLen(large), Chain: 8}
	l, _ := finder.Find(b, s)
	return l
}

// wantText asks that bits are read as a text, by both readers of Deflate.
func wantText(t *testing.T, b, text []byte, large bool) {
	t.Helper()
	got, _, e := inflate.Decode(b, large, len(text))
	if e != api.OK || !bytes.Equal(got, text) {
		t.Fatal(len(text), len(got), e)
	}
	if large {
		return
	}
	got, err := io.ReadAll(flate.NewReader(bytes.NewReader(b)))
	if err != nil || !bytes.Equal(got, text) {
		t.Fatal(len(text), len(got), err)
	}
}

// P19.3: what is said to be the cost are the bits of a block that is read again; of kind 0 where as many bits
// are gone over as may be.
func TestCostsAreBits(t *testing.T) {
	d := dice(191)
	seen := [3]int{}
	for _, text := range d.texts() {
		both(func(large bool) {
			l := tokensOf(text, large)
			if told, e := token.Expand(l, mostDist(large), len(text), false); e != api.OK || !bytes.Equal(told, text) {
				t.Fatal(e)
			}
			best, cost := Best(l, large)
			seen[best]++
			costs := costsPlainly(l, large)
			for kind := range 3 {
				w := bitio.New()
				writeBlock(t, w, l, text, kind, true, large)
				n := w.Len()
				if kind == 0 { // a head of 3 bits needs 5 more, not 7; pieces behind begin with a byte
					n += 2 * ((max(len(text), 1)-1)/65535 + 1)
				}
				if costs[kind] != n || kind == best && cost != n || cost > n {
					t.Fatal(len(text), large, kind, n, costs, best, cost)
				}
				wantText(t, w.Bytes(), text, large)
			}
		})
	}
	if slices.Contains(seen[:], 0) {
		t.Error(seen)
	}
}

// P19.4: the example; the edges of pieces.
func TestBlocksOfFewTokens(t *testing.T) {
	both(func(large bool) {
		wantBlocks(t, nil, large, 0)
		wantBlocks(t, []api.Token{}, large, 0)
		for _, n := range []int{1, 2, 1000, 1023, 1024} {
			wantBlocks(t, cycle(n, 256), large, n)
			wantBlocks(t, cycle(n, 3), large, n)
		}
		// what is alike is put together, how much soever there is
		for _, n := range []int{1025, 2047, 2048, 2049, 3072, 10000, 70000} {
			wantBlocks(t, cycle(n, 3), large, n)
			wantBlocks(t, cycle(n, 256), large, n)
		}
	})
}

// P19.4: texts that have not much in common.
func TestBlocksByHand(t *testing.T) {
	few, many := cycle(1024, 2), cycle(1024, 256)
	copies := slices.Repeat([]api.Token{back(7, 20)}, 1024)
	join := func(l ...[]api.Token) []api.Token { return slices.Concat(l...) }
	both(func(large bool) {
		wantBlocks(t, join(few, many), large, 1024, 1024)
		wantBlocks(t, join(few, many, few), large, 1024, 1024, 1024)
		wantBlocks(t, join(few, few, many), large, 2048, 1024)
		wantBlocks(t, join(few, many, many), large, 1024, 2048)
		wantBlocks(t, join(few, few, many, many, few, copies, copies), large, 2048, 2048, 1024, 2048)
		wantBlocks(t, join(few, many, many[:500]), large, 1024, 1524)
		wantBlocks(t, join(few, many, few[:500]), large, 1024, 1024, 500)
		// a piece is not cut: it is what most of it is
		wantBlocks(t, join(few, many[:100]), large, 1024, 100)
		wantBlocks(t, join(few[:1000], many), large, 1024, 1000)
		wantBlocks(t, join(few[:512], many, few[:512]), large, 2048)
	})
}

// P19.4: put together, if that costs as much; not, if it costs a bit more.
func TestBlocksOfEqualCost(t *testing.T) {
	both(func(large bool) {
		seen := map[int]int{}
		for of := 2; of < 60; of += 3 {
			ahead := cycle(1024, of)
			_, one := bestPlainly(ahead, large)
			for c := 0; c < 256; c += 5 {
				for n := 1; n < 24; n += 2 {
					piece := slices.Repeat([]api.Token{lit(byte(c))}, n)
					l := slices.Concat(ahead, piece)
					_, other := bestPlainly(piece, large)
					_, together := bestPlainly(l, large)
					more := together - one - other
					if more < -1 || more > 1 || seen[more] == 20 {
						continue
					}
					seen[more]++
					if more > 0 {
						wantBlocks(t, l, large, 1024, n)
					} else {
						wantBlocks(t, l, large, 1024+n)
					}
				}
			}
		}
		if seen[-1] < 3 || seen[0] < 3 || seen[1] < 3 {
			t.Error(seen)
		}
	})
}

// P19.4: the block ahead counts with all that was put to it: the more of a kind there is ahead, the fewer others may
// stand in a piece that is put to it.
func TestBlocksCountAllAhead(t *testing.T) {
	both(func(large bool) {
		fewest := map[int]int{}
		for _, ahead := range []int{1, 8} {
			for others := 0; others <= 300; others += 4 {
				l := cycle(1024*(ahead+1), 16)
				for i := range others {
					l[1024*ahead+3*i].Lit = byte(200 + i%5)
				}
				got := blocksPlainly(l, large)
				wantBlocks(t, l, large, got...)
				if len(got) == 2 && fewest[ahead] == 0 {
					fewest[ahead] = others
				}
			}
		}
		if fewest[8] == 0 || fewest[1] <= fewest[8] {
			t.Error(fewest)
		}
	})
}

// some are tokens of a kind that is thrown.
func (d *dice) some(n int, large bool) []api.Token {
	l := make([]api.Token, n)
	first, of := d.below(256), 1+d.below(1<<d.below(9))
	copies := d.below(3) * d.below(100)
	longest := 3 + d.below(1<<d.below(9))
	farthest := 1 + d.below(1<<d.below(16))
	if d.below(6) == 0 {
		of, copies = 256, 0
	}
	for i := range l {
		if d.below(100) >= copies {
			l[i] = lit(byte(first + d.below(of)))
			continue
		}
		l[i] = back(1+d.below(farthest), min(3+d.below(longest), 258))
		if large && d.below(4) == 0 {
			l[i] = back(1+d.below(65536), 3+d.below(65536))
		}
	}
	return l
}

// tokens are thrown ones, which change their kind now and then, of so many pieces; the last one may have less.
func (d *dice) tokens(pieces int, large bool) []api.Token {
	all := (pieces-1)*1024 + 1 + d.below(1024)
	old := d.some(2048, large)
	var l []api.Token
	for len(l) < all {
		n := 1 + d.below(2048)
		switch d.below(4) {
		case 0:
			l = append(l, old[:n]...)
		case 1: // the same with something thrown in
			l = append(l, old[:n/2]...)
			l = append(l, d.some(1+d.below(300), large)...)
			l = append(l, old[n/2:n]...)
		default:
			old = d.some(2048, large)
			l = append(l, old[:n]...)
		}
	}
	return l[:all]
}

// P19.1 to P19.4: thrown tokens, held against the chapter's words.
func TestThrown(t *testing.T) {
	d := dice(193)
	kinds, sizes := [3]int{}, map[int]int{}
	for range 300 {
		large := d.below(2) == 0
		l := d.tokens(1+d.below(8), large)
		wantPlain(t, l, large)
		sizes[len(Blocks(l, large))]++
		short := l[:d.below(min(len(l), 200))]
		wantPlain(t, short, large)
		for _, piece := range append(pieces(l), short) {
			kind, cost := bestPlainly(piece, large)
			wantBest(t, piece, large, kind, cost)
			kinds[kind]++
		}
		first, second := d.lengths(290), d.lengths(34)
		wantBits(t, l, first, second, large, bitsPlainly(l, first, second, large))
	}
	if slices.Min(kinds[:]) < 20 || sizes[1] < 20 || sizes[2] < 20 || sizes[3] < 20 {
		t.Error(kinds, sizes)
	}
}

// lengths are any, up to so many.
func (d *dice) lengths(most int) []int {
	l := make([]int, d.below(most+1))
	for i := range l {
		l[i] = d.below(16)
	}
	return l
}

// P19.1 to P19.4: thrown tokens of which one is thrown quite, which may be or not.
func TestThrownWrong(t *testing.T) {
	d := dice(194)
	seen := map[bool]int{}
	for range 300 {
		large := d.below(2) == 0
		l := d.tokens(1+d.below(3), large)
		x := back(d.below(1<<d.below(18))-d.below(3), d.below(1<<d.below(18))-d.below(3))
		l[d.below(len(l))] = x
		seen[mayBe(x, large)]++
		if mayBe(x, large) {
			wantPlain(t, l, large)
		} else {
			wantNone(t, l, large)
		}
	}
	if seen[true] < 50 || seen[false] < 50 {
		t.Error(seen)
	}
}

// checkBlocks asks what P19.5 says of blocks, and answers what they cost.
func checkBlocks(t *testing.T, l []api.Token, large bool) int {
	t.Helper()
	blocks := Blocks(l, large)
	cost, left := 0, l
	for i, n := range blocks {
		if n > len(left) || i < len(blocks)-1 && n < 1024 || n == 0 && len(l) > 0 {
			t.Fatal(len(l), blocks)
		}
		_, own := Best(left[:n], large)
		cost += own
		left = left[n:]
	}
	if len(left) > 0 {
		t.Fatal(len(l), blocks)
	}
	whole := 0
	for _, piece := range pieces(l) {
		_, own := Best(piece, large)
		whole += own
	}
	if cost > whole && len(l) > 0 {
		t.Fatal(len(l), blocks, cost, whole)
	}
	return cost
}

// P19.5
func TestBlocksHaveAll(t *testing.T) {
	d := dice(195)
	for range 100 {
		large := d.below(2) == 0
		checkBlocks(t, d.tokens(1+d.below(12), large), large)
	}
	for _, text := range d.texts() {
		both(func(large bool) { checkBlocks(t, tokensOf(text, large), large) })
	}
}

// P19.5: texts in blocks, each of its best kind, are read again, and have no more bits than is said.
func TestBlocksAreRead(t *testing.T) {
	d := dice(196)
	for _, text := range d.texts() {
		both(func(large bool) {
			l := tokensOf(text, large)
			blocks := Blocks(l, large)
			w := bitio.New()
			left, told := l, 0
			for i, n := range blocks {
				size := token.Size(left[:n])
				kind, _ := Best(left[:n], large)
				writeBlock(t, w, left[:n], text[told:told+size], kind, i == len(blocks)-1, large)
				left, told = left[n:], told+size
			}
			if cost := checkBlocks(t, l, large); w.Len() > cost {
				t.Fatal(w.Len(), cost)
			}
			wantText(t, w.Bytes(), text, large)
		})
	}
}

// P19.4: a block that grows without end is not gone through again with each piece.
func TestBlocksOfManyTokens(t *testing.T) {
	both(func(large bool) {
		l := cycle(3<<20, 5)
		wantBlocks(t, l, large, len(l))
		l[len(l)-1] = back(0, 3)
		wantBlocks(t, l, large)
	})
}

// R3, R4: what is handed in stays, and what is answered is nobody else's.
func TestNewMemory(t *testing.T) {
	d := dice(197)
	both(func(large bool) {
		l := d.tokens(4, large)
		old := slices.Clone(l)
		first, second := Lists(l, large)
		one, two := Lists(l, large)
		blocks, others := Blocks(l, large), Blocks(l, large)
		cost := Bits(l, first, second, large)
		kind, least := Best(l, large)
		if !slices.Equal(l, old) || !slices.Equal(first, one) || !slices.Equal(second, two) {
			t.Fatal("changed")
		}
		for _, x := range [][]int{first, second, blocks} {
			clear(x)
			_ = append(x, 99)
		}
		again, too := Lists(l, large)
		if !slices.Equal(again, one) || !slices.Equal(too, two) || !slices.Equal(Blocks(l, large), others) {
			t.Error("shared")
		}
		if n := Bits(l, one, two, large); n != cost {
			t.Error(n, cost)
		}
		wantBest(t, l, large, kind, least)
		wantBits(t, nil, nil, nil, large, 0)
		if !slices.Equal(again, one) || !slices.Equal(too, two) {
			t.Error("changed by Bits")
		}
	})
}
