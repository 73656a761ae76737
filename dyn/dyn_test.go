package dyn

import (
	"bytes"
	"compress/flate"
	"io"
	"math"
	"slices"
	"strings"
	"testing"

	"duffel/api"
	"duffel/bitio"
	"duffel/canon"
	"duffel/limit"
)

// dice is a row of numbers that look thrown, and are the same in every run.
type dice uint64

func (d *dice) below(n int) int {
	*d = *d*6364136223846793005 + 1442695040888963407
	return int(uint64(*d)>>33) % n
}

func both(f func(large bool)) {
	f(false)
	f(true)
}

// wide are the numbers at the ends of all.
var wide = []int{math.MinInt, math.MinInt + 1, math.MinInt32, -1 << 16, math.MaxInt32, 1 << 32, 1<<32 + 257, math.MaxInt - 1, math.MaxInt}

// from is the least number that a code stands for, and how many bits stand behind.
type from struct{ least, bits int }

// lengthTable is the table of RFC 1951, 3.2.5, from code 257 on; large is Deflate64's.
func lengthTable(large bool) []from {
	l := []from{
		{3, 0}, {4, 0}, {5, 0}, {6, 0}, {7, 0}, {8, 0}, {9, 0}, {10, 0},
		{11, 1}, {13, 1}, {15, 1}, {17, 1},
		{19, 2}, {23, 2}, {27, 2}, {31, 2},
		{35, 3}, {43, 3}, {51, 3}, {59, 3},
		{67, 4}, {83, 4}, {99, 4}, {115, 4},
		{131, 5}, {163, 5}, {195, 5}, {227, 5},
		{258, 0},
	}
	if large {
		l[28] = from{3, 16}
	}
	return l
}

// distanceTable is the table of RFC 1951, 3.2.5, and with large the two codes of Deflate64 behind.
func distanceTable(large bool) []from {
	l := []from{
		{1, 0}, {2, 0}, {3, 0}, {4, 0}, {5, 1}, {7, 1}, {9, 2}, {13, 2}, {17, 3}, {25, 3},
		{33, 4}, {49, 4}, {65, 5}, {97, 5}, {129, 6}, {193, 6}, {257, 7}, {385, 7}, {513, 8}, {769, 8},
		{1025, 9}, {1537, 9}, {2049, 10}, {3073, 10}, {4097, 11}, {6145, 11}, {8193, 12}, {12289, 12}, {16385, 13}, {24577, 13},
	}
	if large {
		l = append(l, from{32769, 14}, from{49153, 14})
	}
	return l
}

// checkOpen holds a function of codes against a table whose first code is first.
func checkOpen(t *testing.T, what string, f func(int, bool) (int, int, bool), table []from, first int, large bool) {
	t.Helper()
	codes := slices.Clone(wide)
	for code := -70; code < 700; code++ {
		codes = append(codes, code)
	}
	for _, code := range codes {
		var want from
		known := code >= first && code < first+len(table)
		if known {
			want = table[code-first]
		}
		if least, n, ok := f(code, large); least != want.least || n != want.bits || ok != known {
			t.Errorf("%s(%d, %v): %d, %d, %v; want %v, %v", what, code, large, least, n, ok, want, known)
		}
	}
}

// P17.1: the codes of lengths, by the table of RFC 1951; no other code has any.
func TestLength(t *testing.T) {
	both(func(large bool) { checkOpen(t, "Length", Length, lengthTable(large), 257, large) })
}

// P17.1: the codes of distances likewise.
func TestDistance(t *testing.T) {
	both(func(large bool) { checkOpen(t, "Distance", Distance, distanceTable(large), 0, large) })
}

// P17.1: by the words of the chapter.
func TestWordsOfTheChapter(t *testing.T) {
	for code := 265; code <= 284; code++ {
		k := code - 261
		e := k / 4
		if least, n, ok := Length(code, false); least != 3+1<<e*(4+k%4) || n != e || !ok {
			t.Errorf("code %d: %d, %d, %v", code, least, n, ok)
		}
	}
	for code := 4; code <= 31; code++ {
		e := code/2 - 1
		if least, n, ok := Distance(code, true); least != 1+1<<e*(2+code%2) || n != e || !ok {
			t.Errorf("code %d: %d, %d, %v", code, least, n, ok)
		}
	}
}

// standsFor are the code, bits and rest of a number by a table: the last of those codes that stand for it.
func standsFor(table []from, first, n int) (code, k, rest int, known bool) {
	for i, x := range table {
		if n >= x.least && n < x.least+1<<x.bits {
			code, k, rest, known = first+i, x.bits, n-x.least, true
		}
	}
	return code, k, rest, known
}

// P17.2: each length's code; no other length has one.
func TestLengthCode(t *testing.T) {
	both(func(large bool) {
		table := lengthTable(large)
		numbers := slices.Clone(wide)
		for n := -300; n < 1<<16+300; n++ {
			numbers = append(numbers, n)
		}
		for _, n := range numbers {
			code, k, rest, known := standsFor(table, 257, n)
			if known && n < 258 { // 285 has no length for which another one is there
				code, k, rest, known = standsFor(table[:28], 257, n)
			}
			c, e, x, ok := LengthCode(n, large)
			if c != code || e != k || x != rest || ok != known {
				t.Fatalf("LengthCode(%d, %v): %d, %d, %d, %v; want %d, %d, %d, %v", n, large, c, e, x, ok, code, k, rest, known)
			}
		}
	})
}

// P17.2: each distance's code; no other distance has one.
func TestDistanceCode(t *testing.T) {
	both(func(large bool) {
		table := distanceTable(large)
		numbers := slices.Clone(wide)
		for d := -300; d < 1<<17+300; d++ {
			numbers = append(numbers, d)
		}
		for _, d := range numbers {
			code, k, rest, known := standsFor(table, 0, d)
			c, e, x, ok := DistanceCode(d, large)
			if c != code || e != k || x != rest || ok != known {
				t.Fatalf("DistanceCode(%d, %v): %d, %d, %d, %v; want %d, %d, %d, %v", d, large, c, e, x, ok, code, k, rest, known)
			}
		}
	})
}

// P17.1, P17.2: the edges that the chapter names, by hand.
func TestCodeEdges(t *testing.T) {
	type answer struct {
		code, k, rest int
		known         bool
	}
	lengths := []struct {
		n     int
		large bool
		want  answer
	}{
		{2, false, answer{}}, {2, true, answer{}},
		{3, false, answer{257, 0, 0, true}}, {3, true, answer{257, 0, 0, true}},
		{10, false, answer{264, 0, 0, true}},
		{11, false, answer{265, 1, 0, true}}, {12, false, answer{265, 1, 1, true}},
		{257, false, answer{284, 5, 30, true}}, {257, true, answer{284, 5, 30, true}},
		{258, false, answer{285, 0, 0, true}}, {258, true, answer{285, 16, 255, true}},
		{259, false, answer{}}, {259, true, answer{285, 16, 256, true}},
		{65538, false, answer{}}, {65538, true, answer{285, 16, 65535, true}},
		{65539, true, answer{}},
	}
	for _, x := range lengths {
		c, k, rest, known := LengthCode(x.n, x.large)
		if got := (answer{c, k, rest, known}); got != x.want {
			t.Errorf("LengthCode(%d, %v): %v, want %v", x.n, x.large, got, x.want)
		}
	}
	dists := []struct {
		d     int
		large bool
		want  answer
	}{
		{0, false, answer{}}, {0, true, answer{}},
		{1, false, answer{0, 0, 0, true}}, {4, true, answer{3, 0, 0, true}},
		{5, false, answer{4, 1, 0, true}}, {6, false, answer{4, 1, 1, true}},
		{32768, false, answer{29, 13, 8191, true}}, {32768, true, answer{29, 13, 8191, true}},
		{32769, false, answer{}}, {32769, true, answer{30, 14, 0, true}},
		{65536, true, answer{31, 14, 16383, true}}, {65537, true, answer{}},
	}
	for _, x := range dists {
		c, k, rest, known := DistanceCode(x.d, x.large)
		if got := (answer{c, k, rest, known}); got != x.want {
			t.Errorf("DistanceCode(%d, %v): %v, want %v", x.d, x.large, got, x.want)
		}
	}
}

// P17.6: a length's code stands for it with its bits, and so does a distance's.
func TestCodesBack(t *testing.T) {
	both(func(large bool) {
		for n := 3; ; n++ {
			code, k, rest, ok := LengthCode(n, large)
			if !ok {
				break
			}
			least, e, known := Length(code, large)
			if !known || e != k || rest < 0 || rest >= 1<<k || least+rest != n {
				t.Fatalf("length %d, %v: %d, %d, %d; %d, %d, %v", n, large, code, k, rest, least, e, known)
			}
		}
		for d := 1; ; d++ {
			code, k, rest, ok := DistanceCode(d, large)
			if !ok {
				break
			}
			least, e, known := Distance(code, large)
			if !known || e != k || rest < 0 || rest >= 1<<k || least+rest != d {
				t.Fatalf("distance %d, %v: %d, %d, %d; %d, %d, %v", d, large, code, k, rest, least, e, known)
			}
		}
	})
}

// list is a list of so many lengths, of which some are said: symbol and length by turns.
func list(n int, said ...int) []int {
	l := make([]int, n)
	for i := 0; i+1 < len(said); i += 2 {
		l[said[i]] = said[i+1]
	}
	return l
}

// isRight is P17.3 by its words; weights are counted in words of 15 bits.
func isRight(lit, dist []int, large bool) bool {
	most := 30
	if large {
		most = 32
	}
	if len(lit) < 257 || len(lit) > 286 || len(dist) < 1 || len(dist) > most {
		return false
	}
	for _, n := range slices.Concat(lit, dist) {
		if n < 0 || n > 15 {
			return false
		}
	}
	weigh := func(l []int) (weight, words, bits int) {
		for _, n := range l {
			if n > 0 {
				weight += 1 << (15 - n)
				words++
				bits += n
			}
		}
		return weight, words, bits
	}
	weight, words, bits := weigh(lit)
	if lit[256] == 0 || weight != 1<<15 && !(words == 1 && bits == 1) {
		return false
	}
	weight, words, bits = weigh(dist)
	return weight == 1<<15 || words == 1 && bits == 1 || words == 0
}

// P17.3: which lists are right, by hand.
func TestRightEdges(t *testing.T) {
	alone := list(257, 256, 1)
	two := list(257, 0, 1, 256, 1)
	full := list(286, 97, 1, 98, 2, 256, 2)
	deep := list(286)
	for n := 1; n < 15; n++ {
		deep[n] = n
	}
	deep[0], deep[256] = 15, 15
	deepest := slices.Clone(deep)
	deepest[0], deepest[15] = 16, 16
	deepDist := []int{15, 1, 2, 3, 4, 5, 6, 7, 8, 9, 10, 11, 12, 13, 14, 15}
	spread := list(286)
	for i := range 256 {
		spread[i+1] = 8
	}
	for _, x := range []struct {
		name         string
		lit, dist    []int
		small, large bool
	}{
		{"the end alone, no distances", alone, list(1), true, true},
		{"the end alone, one distance", alone, list(1, 0, 1), true, true},
		{"two words", two, list(30), true, true},
		{"lists that are full", full, list(30, 3, 1, 29, 1), true, true},
		{"32 distances", full, list(32, 30, 1, 31, 1), false, true},
		{"31 distances", full, list(31), false, true},
		{"33 distances", full, list(33), false, false},
		{"no list of distances", full, nil, false, false},
		{"an empty one", full, []int{}, false, false},
		{"neither list", nil, nil, false, false},
		{"256 lengths", list(256, 0, 1, 1, 1), list(1), false, false},
		{"287 lengths", list(287, 0, 1, 256, 1), list(1), false, false},
		{"286 lengths", list(286, 285, 1, 256, 1), list(1), true, true},
		{"words of 15 bits", deep, deepDist, true, true},
		{"words of eight bits", spread, list(4, 0, 2, 1, 2, 2, 2, 3, 2), true, true},
		{"a word of 16 bits", list(286, 0, 16, 256, 1), list(1), false, false},
		{"two words of 16 bits, the weight 1", deepest, list(1), false, false},
		{"two distances of 16 bits, the weight 1", full, slices.Concat([]int{16, 16}, deepDist[1:]), false, false},
		{"one distance of 16 bits", full, list(1, 0, 16), false, false},
		{"a length below 0", list(257, 0, 1, 1, -1, 256, 1), list(1), false, false},
		{"a distance's below 0", full, list(3, 0, 1, 1, 1, 2, -1), false, false},
		{"a distance's far below 0", full, list(1, 0, math.MinInt), false, false},
		{"a distance's far above 15", full, list(1, 0, math.MaxInt), false, false},
		{"no end", list(257, 0, 1, 1, 1), list(1), false, false},
		{"no words", list(257), list(1), false, false},
		{"one word of two bits", list(257, 256, 2), list(1), false, false},
		{"one word of one bit, not the end's", list(257, 255, 1), list(1), false, false},
		{"two words of two bits", list(257, 0, 2, 256, 2), list(1), false, false},
		{"a weight above 1", list(257, 0, 1, 1, 1, 256, 1), list(1), false, false},
		{"just above 1", list(257, 0, 1, 1, 15, 256, 1), list(1), false, false},
		{"just below 1", list(257, 0, 1, 1, 2, 2, 3, 256, 4), list(1), false, false},
		{"a weight of 1/2 by two words", list(257, 0, 2, 256, 2), list(1), false, false},
		{"one distance of two bits", full, list(30, 3, 2), false, false},
		{"one distance of 15 bits", full, list(30, 3, 15), false, false},
		{"distances of a weight of 3/4", full, list(30, 3, 1, 4, 2), false, false},
		{"distances of a weight of 1/2 by two words", full, list(30, 3, 2, 4, 2), false, false},
		{"distances of a weight above 1", full, list(30, 3, 1, 4, 1, 5, 15), false, false},
	} {
		if got := Right(x.lit, x.dist, false); got != x.small {
			t.Errorf("%s: %v", x.name, got)
		}
		if got := Right(x.lit, x.dist, true); got != x.large {
			t.Errorf("%s, large: %v", x.name, got)
		}
		both(func(large bool) {
			if got := isRight(x.lit, x.dist, large); got != (x.small || large && x.large) {
				t.Errorf("%s: the words of the chapter say %v", x.name, got)
			}
		})
	}
}

// leaves are the lengths of a full code of n words of at most so many bits: a word, thrown, is parted in two.
func (d *dice) leaves(n, most int) []int {
	l := []int{0}
	for len(l) < n {
		at := d.below(len(l))
		if l[at] == most {
			at = slices.Index(l, slices.Min(l))
		}
		l[at]++
		l = append(l, l[at])
	}
	return l
}

// code is a list of n lengths of which so many have words: a full code, or one word of one bit.
func (d *dice) code(n, words int) []int {
	l := make([]int, n)
	switch {
	case words == 0:
		return l
	case words == 1:
		l[d.below(n)] = 1
		return l
	}
	given := d.leaves(words, 15)
	if d.below(2) == 0 { // equal ones side by side, as a text's often are
		slices.Sort(given)
	}
	at := 0
	for s := range l {
		if d.below(n-s) < len(given)-at {
			l[s] = given[at]
			at++
		}
	}
	return l
}

// lists are two thrown ones that are right.
func (d *dice) lists(large bool) ([]int, []int) {
	n := 257 + d.below(30)
	words := 1 + d.below(n)
	if d.below(2) == 0 {
		words = 1 + d.below(20)
	}
	lit := d.code(n, words)
	if lit[256] == 0 {
		at := d.below(n)
		for lit[at] == 0 {
			at = (at + 1) % n
		}
		lit[256], lit[at] = lit[at], 0
	}
	k := len(distanceTable(large))
	k = 1 + d.below(k)
	return lit, d.code(k, d.below(k+1))
}

// P17.3: thrown lists, right ones and such as were changed at a place, against the words of the chapter.
func TestRightThrown(t *testing.T) {
	d := dice(173)
	seen := map[bool]int{}
	for range 20000 {
		large := d.below(2) == 0
		lit, dist := d.lists(d.below(2) == 0)
		switch d.below(8) {
		case 0:
			lit[d.below(len(lit))] += d.below(5) - 2
		case 1:
			dist[d.below(len(dist))] += d.below(5) - 2
		case 2:
			dist = append(dist, make([]int, d.below(10))...)
		case 3:
			lit = append(lit, make([]int, d.below(10))...)
		case 4:
			lit = lit[:250+d.below(len(lit)-249)]
		case 5:
			lit[d.below(len(lit))] = d.below(17)
			dist[d.below(len(dist))] = d.below(17)
		}
		want := isRight(lit, dist, large)
		seen[want]++
		if got := Right(lit, dist, large); got != want {
			t.Fatalf("%v %v %v: %v", lit, dist, large, got)
		}
	}
	if seen[true] < 2000 || seen[false] < 2000 {
		t.Error(seen)
	}
}

// spell answers a number's bits as a text of noughts and ones, the lowest bit first.
func spell(x, n int) string {
	text := make([]byte, n)
	for i := range text {
		text[i] = byte('0' + x>>i&1)
	}
	return string(text)
}

// packed are bytes of bits that are spelt, noughts behind them up to a byte's end.
func packed(bits ...string) []byte {
	all := strings.Join(bits, "")
	b := make([]byte, (len(all)+7)/8)
	for i, bit := range all {
		if bit == '1' {
			b[i/8] |= 1 << (i % 8)
		}
	}
	return b
}

// thirdOrder is that of P17.4.
var thirdOrder = []int{16, 17, 18, 0, 8, 7, 9, 6, 10, 5, 11, 4, 12, 3, 13, 2, 14, 1, 15}

// wordsOf are the words of lengths by the words of P4.2, the first bit first.
func wordsOf(l []int) map[int]string {
	words := map[int]string{}
	word, next := "", false
	for n := 1; n <= 16; n++ {
		for s, k := range l {
			if k != n {
				continue
			}
			if next { // plus 1
				at := strings.LastIndexByte(word, '0')
				if at < 0 {
					return words
				}
				word = word[:at] + "1" + strings.Repeat("0", len(word)-at-1)
			}
			word += strings.Repeat("0", n-len(word))
			words[s], next = word, true
		}
	}
	return words
}

// plain reads bits that are spelt, as P17.4 says it. It stops at the first error by a panic.
type plain struct {
	bits string
	at   int
}

func (p *plain) number(n int) int {
	if len(p.bits)-p.at < n {
		panic(api.ErrShort)
	}
	x := 0
	for i := range n {
		x |= int(p.bits[p.at+i]-'0') << i
	}
	p.at += n
	return x
}

func (p *plain) word(words map[int]string) int {
	longest := 0
	for s, word := range words {
		if strings.HasPrefix(p.bits[p.at:], word) {
			p.at += len(word)
			return s
		}
		longest = max(longest, len(word))
	}
	if len(p.bits)-p.at < longest {
		panic(api.ErrShort)
	}
	panic(api.ErrCode)
}

// plainRead is P17.4 by its words: both lists, how many bits were read, and the error.
func plainRead(text string, large bool) (lit, dist []int, read int, e api.Errno) {
	p := &plain{bits: text}
	defer func() {
		if x := recover(); x != nil {
			lit, dist, read, e = nil, nil, 0, x.(api.Errno)
		}
	}()
	n, k, there := 257+p.number(5), 1+p.number(5), 4+p.number(4)
	if n > 286 || k > len(distanceTable(large)) {
		panic(api.ErrForm)
	}
	third := make([]int, 19)
	weight := 0
	for _, s := range thirdOrder[:there] {
		third[s] = p.number(3)
		if third[s] > 0 {
			weight += 1 << (7 - third[s])
		}
	}
	if weight != 1<<7 {
		panic(api.ErrTree)
	}
	words := wordsOf(third)
	var all []int
	for len(all) < n+k {
		switch s := p.word(words); s {
		default:
			all = append(all, s)
		case 16:
			times := 3 + p.number(2)
			if len(all) == 0 {
				panic(api.ErrCode)
			}
			all = append(all, slices.Repeat(all[len(all)-1:], times)...)
		case 17:
			all = append(all, make([]int, 3+p.number(3))...)
		case 18:
			all = append(all, make([]int, 11+p.number(7))...)
		}
		if len(all) > n+k {
			panic(api.ErrForm)
		}
	}
	if !isRight(all[:n], all[n:], large) {
		panic(api.ErrTree)
	}
	return all[:n], all[n:], p.at, api.OK
}

// checkRead holds Read against the words of the chapter, at bits that end where their last byte does.
func checkRead(t *testing.T, text string, large bool) api.Errno {
	t.Helper()
	text += strings.Repeat("0", -len(text)&7)
	lit, dist, read, want := plainRead(text, large)
	r := bitio.Open(packed(text))
	gotLit, gotDist, e := Read(r, large)
	if e != want || !slices.Equal(gotLit, lit) || !slices.Equal(gotDist, dist) || e == api.OK && r.Read() != read {
		t.Fatalf("%s, large %v: %v %v %d, %d bits read; want %v %v %d, %d bits", text, large, gotLit, gotDist, e, r.Read(), lit, dist, want, read)
	}
	if e != api.OK && (gotLit != nil || gotDist != nil) {
		t.Fatalf("%s: %d, and lists", text, e)
	}
	return e
}

// head spells how many lengths are there: of the first list, of the second, of the third code.
func head(n, k, there int) string {
	return spell(n-257, 5) + spell(k-1, 5) + spell(there-4, 4)
}

// thirds spells the first lengths of the third code, symbol and length by turns.
func thirds(there int, said ...int) string {
	l := list(19, said...)
	text := ""
	for _, s := range thirdOrder[:there] {
		text += spell(l[s], 3)
	}
	return text
}

// P17.4, P17.5: bits that are spelt by hand. Third code: 0 has no word; 1: 0, 18: 10, 16: 110, 17: 111.
func TestReadByHand(t *testing.T) {
	third := thirds(18, 1, 1, 18, 2, 16, 3, 17, 3)
	if want := "110" + "110" + "010" + strings.Repeat("000", 14) + "100"; third != want {
		t.Fatal(third)
	}
	const one, ten, again, three = "0", "10", "110", "111"
	h := head(257, 1, 18) + third
	zeros := ten + spell(127, 7) + ten + spell(106, 7) // 138 and 117
	for _, x := range []struct {
		name      string
		bits      string
		lit, dist []int
		e         api.Errno
	}{
		{"the end, and a byte", h + one + zeros + one + one, list(257, 0, 1, 256, 1), []int{1}, api.OK},
		{"noughts up to the end of both", head(257, 4, 18) + third + one + zeros + one + three + spell(1, 3), list(257, 0, 1, 256, 1), list(4), api.OK},
		{"the last length of the first list again", head(257, 3, 18) + third + one + zeros + one + again + spell(0, 2), nil, nil, api.ErrTree},
		{"again, and none there", h + again + spell(0, 2), nil, nil, api.ErrCode},
		{"one length more than both have", head(257, 2, 18) + third + one + zeros + one + again + spell(0, 2), nil, nil, api.ErrForm},
		{"noughts more than both have", h + one + zeros + one + three + spell(0, 3), nil, nil, api.ErrForm},
		{"noughts more than both have, at once", h + ten + spell(127, 7) + ten + spell(110, 7), nil, nil, api.ErrForm},
		{"no end", head(257, 1, 18) + third + one + one + ten + spell(127, 7) + ten + spell(107, 7), nil, nil, api.ErrTree},
		{"three words of one bit", h + one + one + ten + spell(127, 7) + ten + spell(105, 7) + one + one, nil, nil, api.ErrTree},
	} {
		r := bitio.Open(packed(x.bits))
		lit, dist, e := Read(r, false)
		if e != x.e || !slices.Equal(lit, x.lit) || !slices.Equal(dist, x.dist) {
			t.Errorf("%s: %v %v %d", x.name, lit, dist, e)
		}
		if e == api.OK && r.Read() != len(x.bits) {
			t.Errorf("%s: %d bits read of %d", x.name, r.Read(), len(x.bits))
		}
		both(func(large bool) { checkRead(t, x.bits, large) })
	}
}

// P17.4: 16 says the last length again, be it 0 or stand it in the first list; 17 and 18 may stand for those of both.
func TestReadAcross(t *testing.T) {
	// Third code: two bits each of 0, 16, 17, 2: words 00, 01, 10, 11 by rising symbols 0, 2, 16, 17.
	third := thirds(18, 0, 2, 2, 2, 16, 2, 17, 2)
	const zero, two, again, noughts = "00", "01", "10", "11"
	body := strings.Repeat(noughts+spell(7, 3), 25) // 250 lengths 0
	for _, x := range []struct {
		name      string
		bits      string
		lit, dist []int
	}{
		{
			"2 again from the first list into the second",
			head(257, 4, 18) + third + body + zero + zero + zero + two + two + two + two + again + spell(1, 2),
			list(257, 253, 2, 254, 2, 255, 2, 256, 2), []int{2, 2, 2, 2},
		},
		{
			"0 again behind a word of noughts",
			head(260, 7, 18) + third + body + again + spell(0, 2) + two + two + two + two + noughts + spell(2, 3) + again + spell(2, 2),
			list(260, 253, 2, 254, 2, 255, 2, 256, 2), list(7),
		},
		{
			"0 again behind a length 0",
			head(257, 1, 18) + third + zero + again + spell(3, 2) + strings.Repeat(noughts+spell(7, 3), 24) + again + spell(3, 2) + two + two + two + two + zero,
			list(257, 253, 2, 254, 2, 255, 2, 256, 2), list(1),
		},
	} {
		lit, dist, e := Read(bitio.Open(packed(x.bits)), false)
		if e != api.OK || !slices.Equal(lit, x.lit) || !slices.Equal(dist, x.dist) {
			t.Errorf("%s: %v %v %d", x.name, lit, dist, e)
		}
		if checkRead(t, x.bits, true) != api.OK {
			t.Error(x.name)
		}
	}
}

// P17.4: how many lengths each list has, and which numbers are too great.
func TestReadHowMany(t *testing.T) {
	// Third code: 18 and 1, a bit each: 0, 1 by rising symbols 1, 18.
	third := thirds(18, 1, 1, 18, 1)
	for n := 257; n <= 288; n++ {
		for k := 1; k <= 32; k++ {
			gap := "1" + spell(127, 7) + "1" + spell(256-138-11, 7) + "0"
			rest := n + k - 257
			switch {
			case rest == 1:
				gap += "0"
			case rest == 2:
				gap += "00" // for n 257 two distances of one bit each; else 257 and a distance
			case rest < 12:
				continue
			default:
				gap += "0" + "1" + spell(rest-1-11, 7)
			}
			text := head(n, k, 18) + third + gap
			both(func(large bool) {
				e := checkRead(t, text, large)
				if tooMany := n > 286 || !large && k > 30; tooMany != (e == api.ErrForm) {
					t.Errorf("%d, %d, %v: %d", n, k, large, e)
				}
			})
		}
	}
}

// P17.4: ErrForm of numbers that are too great comes ahead of what stands behind them, but behind all 14 bits.
func TestReadFirstErrors(t *testing.T) {
	for _, x := range []struct {
		name  string
		bits  string
		small api.Errno
		large api.Errno
	}{
		{"nothing", "", api.ErrShort, api.ErrShort},
		{"one byte, 288 lengths", "11111111", api.ErrShort, api.ErrShort},
		{"287 lengths, and nothing behind", head(287, 1, 4) + "00", api.ErrForm, api.ErrForm},
		{"288 lengths, a third code that is none", head(288, 1, 4) + thirds(4), api.ErrForm, api.ErrForm},
		{"31 distances, and nothing behind", head(257, 31, 4) + "00", api.ErrForm, api.ErrShort},
		{"32 distances, a third code that is none", head(257, 32, 4) + thirds(4), api.ErrForm, api.ErrTree},
		{"a third code without words", head(257, 1, 4) + thirds(4), api.ErrTree, api.ErrTree},
		{"a third code of one word of one bit", head(257, 1, 4) + thirds(4, 0, 1), api.ErrTree, api.ErrTree},
		{"a third code of a weight above 1", head(257, 1, 4) + thirds(4, 0, 1, 16, 1, 17, 1), api.ErrTree, api.ErrTree},
		{"a third code of a weight just above 1", head(257, 1, 4) + thirds(4, 0, 1, 16, 1, 17, 7), api.ErrTree, api.ErrTree},
		{"a third code of a weight below 1", head(257, 1, 4) + thirds(4, 0, 1, 16, 2, 17, 3), api.ErrTree, api.ErrTree},
		{"a third code of a weight above 1, cut", head(257, 1, 19) + thirds(4, 0, 1, 16, 1, 17, 1), api.ErrShort, api.ErrShort},
	} {
		text := x.bits + strings.Repeat("0", -len(x.bits)&7)
		b := packed(text)
		if _, _, e := Read(bitio.Open(b), false); e != x.small {
			t.Errorf("%s: %d, want %d", x.name, e, x.small)
		}
		if _, _, e := Read(bitio.Open(b), true); e != x.large {
			t.Errorf("%s, large: %d, want %d", x.name, e, x.large)
		}
	}
}

// openAt answers a reader of bits that are spelt and at which it stands: behind so many that make whole bytes of all.
func openAt(text string) *bitio.Reader {
	ahead := -len(text) & 7
	r := bitio.Open(packed(strings.Repeat("1", ahead), text))
	r.Bits(ahead)
	return r
}

// P17.4: cut behind any bit, the reader's error comes ahead of those of what was read with it.
func TestReadCut(t *testing.T) {
	third := thirds(18, 1, 1, 18, 2, 16, 3, 17, 3)
	const one, ten, again, three = "0", "10", "110", "111"
	zeros := ten + spell(127, 7) + ten + spell(106, 7)
	for _, text := range []string{
		head(257, 1, 18) + third + one + zeros + one + one,                 // right
		head(257, 1, 18) + third + again + "11",                            // ErrCode in the end
		head(257, 1, 18) + third + one + zeros + one + ten + spell(0, 7),   // ErrForm in the end
		head(257, 2, 18) + third + one + zeros + one + again + "00",        // ErrForm in the end
		head(257, 2, 18) + third + one + zeros + one + three + spell(0, 3), // ErrForm in the end
		head(257, 1, 18) + thirds(18, 1, 1, 18, 2, 16, 3, 17, 2),           // ErrTree in the end
		head(288, 1, 18), // ErrForm in the end
		head(257, 3, 18) + third + one + zeros + one + one + one + one,      // ErrTree in the end
		head(257, 11, 18) + third + one + zeros + one + ten + spell(0, 7),   // right
		head(257, 15, 18) + third + one + zeros + one + ten + spell(4, 7),   // right
		head(257, 2, 18) + third + one + zeros + one + one + one,            // right
		head(286, 30, 18) + third + one + zeros + one + ten + spell(48, 7),  // right
		head(286, 30, 18) + third + one + zeros + one + ten + spell(127, 7), // ErrForm in the end
	} {
		for n := range text {
			r := openAt(text[:n])
			ahead := r.Read()
			lit, dist, e := Read(r, false)
			if e != api.ErrShort || lit != nil || dist != nil {
				t.Fatalf("%d of the bits %s: %d", n, text, e)
			}
			if r.Read() > ahead+n {
				t.Fatalf("%d bits read of %d", r.Read(), ahead+n)
			}
		}
		r := openAt(text)
		ahead := r.Read()
		lit, dist, e := Read(r, false)
		wantLit, wantDist, read, want := plainRead(text, false)
		if e != want || !slices.Equal(lit, wantLit) || !slices.Equal(dist, wantDist) || e == api.OK && r.Read()-ahead != read {
			t.Fatalf("%s: %v %v %d", text, lit, dist, e)
		}
		if e == api.ErrShort {
			t.Fatalf("%s: short", text)
		}
	}
}

// P17.4: a reader's error of old, and a reader that none opened.
func TestReadOldErrors(t *testing.T) {
	lit, dist := list(257, 0, 1, 256, 1), list(1)
	w := bitio.New()
	Write(w, lit, dist, false)
	b := w.Bytes()
	wrong := bitio.Open(b)
	wrong.Bits(33)
	short := bitio.Open(nil)
	short.Bit()
	form := bitio.Open(b)
	form.Bit()
	form.Bytes(1)
	for e, r := range map[api.Errno]*bitio.Reader{api.ErrArg: wrong, api.ErrShort: short, api.ErrForm: form} {
		if l, k, got := Read(r, false); got != e || l != nil || k != nil {
			t.Errorf("%d: %v %v %d", e, l, k, got)
		}
	}
	for _, r := range []*bitio.Reader{nil, {}, new(bitio.Reader)} {
		both(func(large bool) {
			if l, k, e := Read(r, large); e != api.ErrNil || l != nil || k != nil {
				t.Errorf("%v %v %d", l, k, e)
			}
		})
	}
}

// P17.4: what is written, with every bit turned, against the words of the chapter.
func TestReadTurned(t *testing.T) {
	d := dice(174)
	seen := map[api.Errno]int{}
	for range 40 {
		large := d.below(2) == 0
		lit, dist := d.lists(large)
		w := bitio.New()
		Write(w, lit, dist, large)
		text := spellBytes(w.Bytes(), w.Len())
		for at := range text {
			turned := []byte(text)
			turned[at] ^= 1
			seen[checkRead(t, string(turned), large)]++
		}
	}
	for _, e := range []api.Errno{api.OK, api.ErrShort, api.ErrForm, api.ErrTree} {
		if seen[e] == 0 {
			t.Error(seen)
		}
	}
}

// spellBytes spells the first bits of bytes.
func spellBytes(b []byte, n int) string {
	text := ""
	for _, c := range b {
		text += spell(int(c), 8)
	}
	return text[:n]
}

// spelt answers lists as bits, by words of any third code that has those that it needs, thrown.
func (d *dice) spelt(lit, dist []int) string {
	third := list(19)
	for s, n := range d.leaves(19, 7) {
		third[s] = n
	}
	words := wordsOf(third)
	text := head(len(lit), len(dist), 19) + thirds(19, pairs(third)...)
	all := slices.Concat(lit, dist)
	for at := 0; at < len(all); {
		like := 1
		for at+like < len(all) && all[at+like] == all[at] {
			like++
		}
		like = 1 + d.below(like) // any piece of a run may be told at once
		switch {
		case like >= 3 && at > 0 && all[at-1] == all[at] && d.below(4) > 0:
			like = min(like, 6)
			text += words[16] + spell(like-3, 2)
		case like >= 11 && all[at] == 0:
			like = min(like, 138)
			text += words[18] + spell(like-11, 7)
		case like >= 3 && all[at] == 0:
			like = min(like, 10)
			text += words[17] + spell(like-3, 3)
		default:
			like = 1
			text += words[all[at]]
		}
		at += like
	}
	return text
}

// pairs are a list's symbols and lengths by turns.
func pairs(l []int) []int {
	var said []int
	for s, n := range l {
		said = append(said, s, n)
	}
	return said
}

// P17.4: lists, right ones or not, by thrown third codes and any of the words that may be taken.
func TestReadThrown(t *testing.T) {
	d := dice(175)
	seen := map[api.Errno]int{}
	for i := range 1500 {
		large := d.below(2) == 0
		lit, dist := d.lists(true)
		if i%3 == 0 {
			lit[d.below(len(lit))] = d.below(16)
		}
		text := d.spelt(lit, dist)
		e := checkRead(t, text, large)
		seen[e]++
		want := api.OK
		switch {
		case !large && len(dist) > 30:
			want = api.ErrForm
		case !isRight(lit, dist, large):
			want = api.ErrTree
		}
		if e != want {
			t.Fatalf("%v %v: %d, want %d", lit, dist, e, want)
		}
	}
	if seen[api.OK] < 500 || seen[api.ErrTree] < 100 || seen[api.ErrForm] < 5 {
		t.Error(seen)
	}
}

// P17.4: thrown bits behind a head and a third code that are right.
func TestReadAnyBits(t *testing.T) {
	d := dice(176)
	seen := map[api.Errno]int{}
	for i := range 3000 {
		large := d.below(2) == 0
		words := 2 + d.below(18)
		third := list(19)
		for _, n := range d.leaves(words, 7) {
			at := d.below(19)
			for third[at] > 0 {
				at = (at + 1) % 19
			}
			third[at] = n
		}
		text := head(257+d.below(30), 1+d.below(30), 19) + thirds(19, pairs(third)...)
		if i%4 == 0 {
			text = ""
		}
		for range d.below(400) {
			text += spell(d.below(256), 8)
		}
		seen[checkRead(t, text, large)]++
	}
	for _, e := range []api.Errno{api.ErrShort, api.ErrForm, api.ErrTree, api.ErrCode} {
		if seen[e] < 10 {
			t.Error(seen)
		}
	}
}

// trimmed is a list without the noughts at its end, as far as it may be shorter.
func trimmed(l []int, least int) []int {
	for len(l) > least && l[len(l)-1] == 0 {
		l = l[:len(l)-1]
	}
	return l
}

// checkWrite writes lists behind some bits, and holds what is there against P17.5.
func checkWrite(t *testing.T, lit, dist []int, large bool, ahead int) {
	t.Helper()
	litWas, distWas := slices.Clone(lit), slices.Clone(dist)
	w, again := bitio.New(), bitio.New()
	for range ahead {
		w.Put(1, 1)
		again.Put(1, 1)
	}
	if e := Write(w, lit, dist, large); e != api.OK {
		t.Fatalf("%v %v %v: %d", lit, dist, large, e)
	}
	Write(again, lit, dist, large)
	if !bytes.Equal(w.Bytes(), again.Bytes()) || w.Len() != again.Len() {
		t.Fatalf("%v %v: not the same each time", lit, dist)
	}
	if n := Cost(lit, dist); w.Len()-ahead != n {
		t.Fatalf("%v %v: %d bits, Cost %d", lit, dist, w.Len()-ahead, n)
	}
	if !slices.Equal(lit, litWas) || !slices.Equal(dist, distWas) {
		t.Fatal("lists were changed")
	}
	r := bitio.Open(w.Bytes())
	for range ahead {
		if r.Bit() != 1 {
			t.Fatal("what stood ahead was changed")
		}
	}
	gotLit, gotDist, e := Read(r, large)
	if e != api.OK || r.Read() != w.Len() {
		t.Fatalf("%v %v: %d, %d bits read of %d", lit, dist, e, r.Read(), w.Len())
	}
	if !slices.Equal(gotLit, trimmed(lit, 257)) || !slices.Equal(gotDist, trimmed(dist, 1)) {
		t.Fatalf("%v %v: %v %v", lit, dist, gotLit, gotDist)
	}
	text := spellBytes(w.Bytes(), w.Len())[ahead:]
	plainLit, plainDist, read, e := plainRead(text, large)
	if e != api.OK || read != len(text) || !slices.Equal(gotLit, plainLit) || !slices.Equal(gotDist, plainDist) {
		t.Fatalf("%v %v: %v %v %d by the words of the chapter", lit, dist, plainLit, plainDist, e)
	}
}

// P17.5, P17.6: thrown lists, written and read.
func TestWrite(t *testing.T) {
	d := dice(177)
	for range 1500 {
		large := d.below(2) == 0
		lit, dist := d.lists(large)
		checkWrite(t, lit, dist, large, d.below(20))
		lit = append(lit, make([]int, d.below(286-len(lit)+1))...)
		dist = append(dist, make([]int, d.below(len(distanceTable(large))-len(dist)+1))...)
		checkWrite(t, lit, dist, large, d.below(20))
	}
}

// runs are lists in which a length stands so often, behind other ones: the words of which are told as runs.
func runs(n, length, times int) []int {
	l := make([]int, n)
	for i := range times {
		l[256-times+i] = length
	}
	return l
}

// P17.5, P17.6: runs of all lengths up to 138 and beyond, of noughts and of other lengths.
func TestWriteRuns(t *testing.T) {
	for gap := range 256 { // so many noughts between two words
		checkWrite(t, list(286, 255-gap, 1, 256, 1), list(30), false, 0)
		checkWrite(t, list(257+gap%30, 256, 1, 0, 1), list(30, gap%30, 1), false, gap%8)
	}
	for n := 3; n <= 8; n++ { // 2^n words of n bits less one, and two of a bit more
		words := 1<<n - 1
		lit := runs(286, n, words)
		if n == 8 {
			lit = runs(257, n, words)
		}
		lit[256] = n
		checkWrite(t, lit, list(1), false, 0)
		checkWrite(t, lit, list(4, 0, 2, 1, 2, 2, 2, 3, 2), true, 3)
	}
	for pairs := range 29 { // so many lengths of 9 bits in a row, one pair instead of a word of 8
		lit := make([]int, 286)
		for s := range lit[:256-pairs-1] {
			lit[s] = 8
		}
		for s := 256 - pairs - 1; s <= 256+pairs; s++ {
			lit[s] = 9
		}
		checkWrite(t, lit, list(30, 0, 1, 29, 1), false, 0)
	}
	for k := 1; k <= 30; k++ { // a run from the first list into the second
		d := dice(k)
		for words := 0; words <= k; words++ {
			checkWrite(t, list(286, 0, 1, 256, 1), d.code(k, words), false, 0)
		}
	}
}

// P17.5: the noughts at the ends are not there, as far as lists may be shorter.
func TestWriteTrims(t *testing.T) {
	for _, x := range []struct {
		lit, dist []int
		n, k      int
	}{
		{list(286, 0, 1, 256, 1), list(30), 257, 1},
		{list(257, 0, 1, 256, 1), list(1), 257, 1},
		{list(286, 256, 1), list(30, 0, 1), 257, 1},
		{list(286, 256, 1, 285, 1), list(30, 29, 1), 286, 30},
		{list(286, 256, 1, 284, 1), list(30, 28, 1), 285, 29},
		{list(270, 256, 1, 257, 1), list(20, 1, 1), 258, 2},
	} {
		w := bitio.New()
		if e := Write(w, x.lit, x.dist, false); e != api.OK {
			t.Fatal(e)
		}
		lit, dist, e := Read(bitio.Open(w.Bytes()), false)
		if e != api.OK || len(lit) != x.n || len(dist) != x.k {
			t.Errorf("%v %v: %d, %d, %d", x.lit, x.dist, len(lit), len(dist), e)
		}
		if Cost(x.lit, x.dist) != Cost(lit, dist) {
			t.Errorf("%v %v: noughts at the end cost", x.lit, x.dist)
		}
		long := append(slices.Clone(x.dist), make([]int, 33-len(x.dist))...)
		if e := Write(w, x.lit, long[:31], false); e != api.ErrArg { // though noughts alone are too many
			t.Error(e)
		}
		if e := Write(w, x.lit, long[:32], true); e != api.OK {
			t.Error(e)
		}
		if e := Write(w, x.lit, long, true); e != api.ErrArg {
			t.Error(e)
		}
	}
}

// P17.5: lists that are not right are not written, and cost nothing.
func TestWriteWrong(t *testing.T) {
	d := dice(178)
	wrong := 0
	for i := range 3000 {
		large := d.below(2) == 0
		lit, dist := d.lists(true)
		switch i % 4 {
		case 0:
			lit[d.below(len(lit))] += 1 + d.below(3)
		case 1:
			dist[d.below(len(dist))] += 1 + d.below(3)
		case 2:
			lit[256] = 0
		}
		right := isRight(lit, dist, large)
		w := bitio.New()
		w.Put(5, 3)
		e := Write(w, lit, dist, large)
		if right != (e == api.OK) || !right && (e != api.ErrArg || w.Len() != 3) {
			t.Fatalf("%v %v %v: %d, %d bits", lit, dist, large, e, w.Len())
		}
		if n := Cost(lit, dist); (n > 0) != isRight(lit, dist, true) {
			t.Fatalf("%v %v: Cost %d", lit, dist, n)
		}
		if !right {
			wrong++
		}
	}
	if wrong < 500 {
		t.Error(wrong)
	}
	w := bitio.New()
	for _, lit := range [][]int{nil, {}, list(256), list(257), list(4097, 256, 1), list(1<<16, 256, 1)} {
		for _, dist := range [][]int{nil, {}, list(1), list(4097), list(1 << 16)} {
			both(func(large bool) {
				if e := Write(w, lit, dist, large); e != api.ErrArg || w.Len() != 0 || Cost(lit, dist) != 0 || Right(lit, dist, large) {
					t.Errorf("%d, %d lengths: %d", len(lit), len(dist), e)
				}
			})
		}
	}
	if n := Cost(list(257, 256, 1), list(32, 31, 1)); n == 0 {
		t.Error("with large 32 distances may be")
	}
}

// P17.5 (and R1): a writer that is nil; a zero one is as New made it.
func TestWriteNil(t *testing.T) {
	lit, dist := list(257, 0, 1, 256, 1), list(1)
	if e := Write(nil, lit, dist, false); e != api.ErrNil {
		t.Error(e)
	}
	if e := Write(nil, nil, nil, true); e != api.ErrNil {
		t.Error(e)
	}
	var w bitio.Writer
	if e := Write(&w, lit, dist, false); e != api.OK || w.Len() != Cost(lit, dist) {
		t.Error(e, w.Len())
	}
}

// P17.4, P17.5 (and R3): lists that are read are new memory, which they do not share.
func TestNewMemory(t *testing.T) {
	lit, dist := list(286, 0, 1, 256, 1), list(30, 3, 1, 4, 1)
	w := bitio.New()
	Write(w, lit, dist, false)
	lit[5], dist[5] = 7, 7
	b := w.Bytes()
	one, two, _ := Read(bitio.Open(b), false)
	grown := append(one, 9, 9, 9)
	grown[0] = 8
	one[256] = 3
	if two[0] != 0 || two[3] != 1 {
		t.Error("the lists share memory:", two)
	}
	three, four, _ := Read(bitio.Open(b), false)
	if three[256] != 1 || three[0] != 1 || four[3] != 1 {
		t.Error("answers share memory")
	}
}

// P17.5: how many bits are enough for a few lists, counted by hand.
func TestWriteByHand(t *testing.T) {
	for _, x := range []struct {
		lit, dist []int
		most      int
	}{
		// 1, 138 noughts, 117 noughts, 1, 0: the third code has words of 1, 2 and 2 bits, the last of them 1's.
		{list(257, 0, 1, 256, 1), list(1), 14 + 3*18 + 2 + (1 + 7) + (1 + 7) + 2 + 2},
		// 138 noughts, 118 noughts, 1, 1: 1 is the last but one of the third code's symbols.
		{list(257, 256, 1), list(1, 0, 1), 14 + 3*18 + (1 + 7) + (1 + 7) + 1 + 1},
		// 0, 8, 43 times 16 for the 255 others, 0: 16 has a word of one bit.
		{append(list(1), slices.Repeat([]int{8}, 256)...), list(1), 14 + 3*5 + 2 + 2 + 43*(1+2) + 2},
	} {
		w := bitio.New()
		if e := Write(w, x.lit, x.dist, false); e != api.OK || w.Len() > x.most {
			t.Errorf("%v %v: %d, %d bits, more than %d", x.lit, x.dist, e, w.Len(), x.most)
		}
	}
}

// P17.5: lists cost no more than by seven bits a length, and far less if they have few words.
func TestCost(t *testing.T) {
	d := dice(179)
	for range 500 {
		lit, dist := d.lists(true)
		if n, most := Cost(lit, dist), 14+3*19+7*(len(lit)+len(dist)); n <= 14+3*4 || n > most {
			t.Fatalf("%v %v: %d bits, more than %d", lit, dist, n, most)
		}
	}
	if n := Cost(list(286, 97, 1, 98, 2, 256, 2), list(30, 3, 1)); n > 120 {
		t.Error(n)
	}
}

// block answers a block of Deflate, the last one: a text byte by byte, and behind it a copy, by its own codes.
func block(text []byte, length, dist int) ([]byte, []int, []int) {
	f, g := make([]int, 286), make([]int, 30)
	for _, c := range text {
		f[c]++
	}
	f[256] = 1
	code, k, rest, ok := LengthCode(length, false)
	from, j, back, _ := DistanceCode(dist, false)
	if ok {
		f[code]++
		g[from]++
	}
	lit, _ := limit.Lengths(f, 15)
	far, _ := limit.Lengths(g, 15)
	words, _ := canon.Codes(lit)
	distances, _ := canon.Codes(far)
	w := bitio.New()
	w.Put(1, 1)
	w.Put(2, 2)
	Write(w, lit, far, false)
	put := func(c api.Code) { w.Put(c.Bits, c.Len) }
	for _, c := range text {
		put(words[c])
	}
	if ok {
		put(words[code])
		w.Put(uint32(rest), k)
		put(distances[from])
		w.Put(uint32(back), j)
	}
	put(words[256])
	return w.Bytes(), lit, far
}

// P17.1, P17.2, P17.5: another reader of Deflate reads what was written.
func TestFlateReads(t *testing.T) {
	d := dice(180)
	check := func(text []byte, length, dist int) {
		b, lit, far := block(text, length, dist)
		want := slices.Clone(text)
		for range length {
			want = append(want, want[len(want)-dist])
		}
		got, err := io.ReadAll(flate.NewReader(bytes.NewReader(b)))
		if err != nil || !bytes.Equal(got, want) {
			t.Fatalf("%d bytes, a copy of %d from %d: %v; %v %v", len(text), length, dist, err, lit, far)
		}
	}
	text := make([]byte, 32768)
	for i := range text {
		text[i] = byte(d.below(1 + d.below(256)))
	}
	for length := 3; length <= 258; length++ {
		dist := 1 + d.below(300)
		check(text[d.below(1000):][:300+d.below(500)], length, dist)
	}
	for bit := range 16 {
		for _, dist := range []int{1<<bit - 1, 1 << bit, 1<<bit + 1, 3<<bit/2 + 1} {
			if dist > 0 && dist <= 32768 {
				check(text, 3+d.below(256), dist)
			}
		}
	}
	for n := range 300 { // without a copy; from no bytes on
		check(text[n:2*n], 0, 0)
	}
}

// P17.4: the lengths that another writer of Deflate wrote, read: by these words the text stands there.
func TestFlateWrites(t *testing.T) {
	d := dice(181)
	told := 0
	for _, kinds := range []int{2, 3, 10, 26, 60} {
		for _, level := range []int{1, 5, 9, -2} {
			text := make([]byte, 4000)
			for i := range text {
				text[i] = byte('a' + d.below(1+d.below(kinds)))
			}
			var b bytes.Buffer
			w, _ := flate.NewWriter(&b, level)
			w.Write(text)
			w.Close()
			got := tell(t, b.Bytes())
			if !bytes.HasPrefix(text, got) {
				t.Fatalf("%d kinds, level %d: %d bytes", kinds, level, len(got))
			}
			told += len(got)
		}
	}
	if told < 60000 { // some blocks are of other kinds
		t.Error(told)
	}
}

// tell reads the blocks that have codes of their own, up to the first other one.
func tell(t *testing.T, b []byte) []byte {
	t.Helper()
	r := bitio.Open(b)
	var text []byte
	for {
		last := r.Bit()
		if kind := r.Bits(2); kind != 2 {
			return text
		}
		lit, dist, e := Read(r, false)
		if e != api.OK {
			t.Fatal(e)
		}
		first, _ := canon.New(lit)
		second, _ := canon.New(dist)
		for {
			s, e := first.Next(r)
			if e != api.OK {
				t.Fatal(e)
			}
			if s < 256 {
				text = append(text, byte(s))
				continue
			}
			if s == 256 {
				break
			}
			least, n, _ := Length(s, false)
			length := least + int(r.Bits(n))
			from, _ := second.Next(r)
			least, n, _ = Distance(from, false)
			back := least + int(r.Bits(n))
			for range length {
				text = append(text, text[len(text)-back])
			}
		}
		if last == 1 {
			return text
		}
	}
}

// P17.1, P17.6: each code goes on where the one ahead of it ends, so that no number has two, but for 258, which
// the chapter gives to 285.
func TestOneCode(t *testing.T) {
	both(func(large bool) {
		next := 3
		for code := 257; code < 285; code++ {
			least, n, _ := Length(code, large)
			if least != next {
				t.Errorf("length's code %d: from %d on, want %d", code, least, next)
			}
			next = least + 1<<n
		}
		if next != 259 {
			t.Error(next)
		}
		next = 1
		for code := range distanceTable(large) {
			least, n, _ := Distance(code, large)
			if least != next {
				t.Errorf("distance's code %d: from %d on, want %d", code, least, next)
			}
			next = least + 1<<n
		}
		if _, _, _, ok := DistanceCode(next-1, large); !ok {
			t.Error(next - 1)
		}
		if _, _, _, ok := DistanceCode(next, large); ok {
			t.Error(next)
		}
	})
}
