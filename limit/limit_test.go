package limit

import (
	"cmp"
	"iter"
	"math"
	"slices"
	"testing"

	"duffel/api"
)

// dice is a row of numbers that look thrown, and are the same in every run.
type dice uint64

func (d *dice) below(n int) int {
	*d = *d*6364136223846793005 + 1442695040888963407
	return int(uint64(*d)>>33) % n
}

// frequencies are so many numbers below a bound, of which some are 0.
func (d *dice) frequencies(n, bound int) []int {
	f := make([]int, n)
	for s := range f {
		f[s] = d.below(bound)
	}
	return f
}

// lists goes through all lists of so many numbers, each one of these.
func lists(n int, numbers ...int) iter.Seq[[]int] {
	return func(yield func([]int) bool) {
		many := 1
		for range n {
			many *= len(numbers)
		}
		for which := range many {
			l := make([]int, n)
			for i := range l {
				l[i] = numbers[which%len(numbers)]
				which /= len(numbers)
			}
			if !yield(l) {
				return
			}
		}
	}
}

// fibonacci are frequencies whose best words are the longest that may be: each is the sum of the two ahead of it.
func fibonacci(n int) []int {
	f := make([]int, n)
	a, b := 1, 1
	for s := range f {
		f[s] = a
		a, b = b, a+b
	}
	return f
}

// coming are the frequencies above 0, the greatest first.
func coming(f []int) []int {
	c := slices.DeleteFunc(slices.Clone(f), func(n int) bool { return n == 0 })
	slices.SortFunc(c, func(a, b int) int { return cmp.Compare(b, a) })
	return c
}

// leastPlainly is the least cost of all lengths up to most whose weight is 1 or less; each list of them is tried.
func leastPlainly(f []int, most int) int {
	var numbers []int
	for n := 1; n <= most; n++ {
		numbers = append(numbers, n)
	}
	c, least := coming(f), math.MaxInt
	for l := range lists(len(c), numbers...) {
		weight, cost := 0, 0
		for i, n := range l {
			weight += 1 << (most - n)
			cost += c[i] * n
		}
		if weight <= 1<<most && cost < least {
			least = cost
		}
	}
	return least
}

// leastByTrees is the least cost of words in trees that are grown bit by bit: in each a number of the most
// frequent symbols that have no word yet get one, and whoever has none pays for one bit more.
func leastByTrees(f []int, most int) int {
	c := coming(f)
	rest := make([]int, len(c)+1) // what the symbols from one on come to
	for i := len(c) - 1; i >= 0; i-- {
		rest[i] = rest[i+1] + c[i]
	}
	type state struct{ done, ends, bits int }
	known := map[state]int{}
	var grow func(state) int
	grow = func(at state) int {
		if at.done == len(c) {
			return 0
		}
		if at.bits == most || at.ends == 0 {
			return math.MaxInt
		}
		if cost, ok := known[at]; ok {
			return cost
		}
		ends := min(2*at.ends, len(c)-at.done) // more have no use
		least := math.MaxInt
		for k := range ends + 1 {
			if cost := grow(state{at.done + k, ends - k, at.bits + 1}); cost < math.MaxInt {
				least = min(least, rest[at.done]+cost)
			}
		}
		known[at] = least
		return least
	}
	return grow(state{0, 1, 0})
}

// leastOfAnyLength is the least cost of words of any length: what Huffman's way sums up, the two least at a time.
func leastOfAnyLength(f []int) int {
	c := coming(f)
	cost := 0
	for len(c) > 1 {
		n := len(c)
		sum := c[n-1] + c[n-2]
		cost += sum
		at, _ := slices.BinarySearchFunc(c[:n-2], sum, func(a, b int) int { return cmp.Compare(b, a) })
		c = slices.Insert(c[:n-2], at, sum)
	}
	return cost
}

// head is what is told of a list.
func head(l []int) []int { return l[:min(len(l), 40)] }

// mustLengths asks for lengths that may be, whatever they cost: of several symbols a weight of 1.
func mustLengths(t *testing.T, f []int, most int) []int {
	t.Helper()
	l, e := Lengths(f, most)
	if e != api.OK || len(l) != len(f) {
		t.Fatalf("%d symbols up to %d: %d lengths, error %d", len(f), most, len(l), e)
	}
	come, weight := 0, 0
	for s, n := range l {
		if f[s] == 0 {
			if n != 0 {
				t.Fatalf("%v up to %d: %v: symbol %d does not come", head(f), most, head(l), s)
			}
			continue
		}
		if n < 1 || n > most {
			t.Fatalf("%v up to %d: %v: symbol %d", head(f), most, head(l), s)
		}
		come++
		weight += 1 << (16 - n)
	}
	// One symbol alone has a word of one bit, which is half of all.
	if want := min(come, 2) << 15; weight != want {
		t.Fatalf("%v up to %d: %v: weight %x, want %x", head(f), most, head(l), weight, want)
	}
	wantOrder(t, f, l)
	return l
}

// wantOrder asks that what comes more often has no longer word.
func wantOrder(t *testing.T, f, l []int) {
	t.Helper()
	var order []int
	for s, n := range f {
		if n > 0 {
			order = append(order, s)
		}
	}
	// Of equal frequencies the longest word first, so that only those of unequal ones can fall.
	slices.SortFunc(order, func(a, b int) int { return cmp.Or(cmp.Compare(f[a], f[b]), cmp.Compare(l[b], l[a])) })
	for i := 1; i < len(order); i++ {
		if l[order[i]] > l[order[i-1]] {
			t.Fatalf("%v: %v: symbols %d, %d", head(f), head(l), order[i-1], order[i])
		}
	}
}

// wantCost asks for lengths that cost just so much.
func wantCost(t *testing.T, f []int, most, cost int) {
	t.Helper()
	l := mustLengths(t, f, most)
	sum := 0
	for s := range f {
		sum += f[s] * l[s]
	}
	if sum != cost {
		t.Fatalf("%v up to %d: %v: cost %d, want %d", head(f), most, head(l), sum, cost)
	}
}

// wantLengths asks for the one list of lengths that is best.
func wantLengths(t *testing.T, f []int, most int, want ...int) {
	t.Helper()
	if l := mustLengths(t, f, most); !slices.Equal(l, want) {
		t.Errorf("%v up to %d: %v, want %v", head(f), most, head(l), head(want))
	}
}

func wantArg(t *testing.T, f []int, most int) {
	t.Helper()
	if l, e := Lengths(f, most); len(l) != 0 || e != api.ErrArg {
		t.Errorf("%d frequencies, %v, up to %d: %d lengths, error %d", len(f), head(f), most, len(l), e)
	}
}

func TestLengths(t *testing.T) { // P5.2
	wantLengths(t, []int{1, 1, 2, 4}, 8, 3, 3, 2, 1)
	wantLengths(t, []int{1, 1, 2, 4}, 3, 3, 3, 2, 1)
	wantLengths(t, []int{1, 1, 2, 4}, 2, 2, 2, 2, 2)
	wantLengths(t, []int{4, 0, 1, 0, 0, 2, 1}, 8, 1, 0, 3, 0, 0, 2, 3)
	wantLengths(t, []int{5, 100}, 1, 1, 1)
	wantLengths(t, []int{5, 100}, 16, 1, 1)
	wantLengths(t, []int{9, 1, 1}, 16, 1, 2, 2)
	wantLengths(t, []int{0, 3, 8, 4}, 2, 0, 2, 1, 2)
	wantLengths(t, []int{1, 1, 2, 3, 5, 8}, 5, 5, 5, 4, 3, 2, 1)
	wantLengths(t, []int{1, 2, 4, 8, 16}, 4, 4, 4, 3, 2, 1)
	wantLengths(t, []int{16, 8, 4, 2, 1}, 3, 1, 3, 3, 3, 3)
}

func TestLengthsWithoutSymbolsThatCome(t *testing.T) { // P5.2
	for _, n := range []int{0, 1, 2, 7, api.MaxSymbols} {
		for most := 1; most <= api.MaxCode; most++ {
			wantLengths(t, make([]int, n), most, make([]int, n)...)
		}
	}
	if l, e := Lengths(nil, 5); e != api.OK || len(l) != 0 {
		t.Error(l, e)
	}
}

func TestLengthsOfOneSymbolAlone(t *testing.T) { // P5.2
	for most := 1; most <= api.MaxCode; most++ {
		wantLengths(t, []int{1}, most, 1)
		wantLengths(t, []int{1 << 40}, most, 1)
		wantLengths(t, []int{0, 7, 0}, most, 0, 1, 0)
		f := make([]int, api.MaxSymbols)
		f[api.MaxSymbols-1] = 3
		if l := mustLengths(t, f, most); l[api.MaxSymbols-1] != 1 {
			t.Error(most, l[api.MaxSymbols-1])
		}
	}
}

func TestFrequenciesThatMayNotBe(t *testing.T) { // P5.1, P5.2, R2
	for _, n := range []int{-1, 1<<40 + 1, math.MinInt, math.MaxInt, -1 << 40} {
		for _, most := range []int{1, 8, 16} {
			wantArg(t, []int{n}, most)
			wantArg(t, []int{n, 0}, most)
			wantArg(t, []int{0, 0, n}, most)
			wantArg(t, []int{1, n}, most)
		}
	}
	for _, most := range []int{0, -1, 17, 32, 64, 65, -64, math.MinInt, math.MaxInt} {
		wantArg(t, nil, most)
		wantArg(t, []int{0}, most)
		wantArg(t, []int{1}, most)
		wantArg(t, []int{1, 1, 2, 4}, most)
	}
}

func TestGreatestFrequencies(t *testing.T) { // P5.1, P5.2
	wantLengths(t, []int{1 << 40, 1<<40 - 1}, 1, 1, 1)
	wantLengths(t, []int{1 << 40, 1 << 40, 1 << 40, 1 << 40}, 16, 2, 2, 2, 2)
	wantLengths(t, []int{1, 1 << 40, 0, 1}, 5, 2, 1, 0, 2)
	wantLengths(t, slices.Repeat([]int{1 << 40}, api.MaxSymbols), 12, slices.Repeat([]int{12}, api.MaxSymbols)...)
	wantCost(t, slices.Repeat([]int{1 << 40}, api.MaxSymbols), 16, 12<<52)
	// The seldom ones take a 32nd of all words up to 16 bits; 128 of the others have one bit more than 11.
	wantCost(t, slices.Repeat([]int{1 << 40, 1}, api.MaxSymbols/2), 16, (2048*11+128)<<40+2048*16)
}

func TestTooManySymbols(t *testing.T) { // P5.1
	for most := 1; most <= api.MaxCode; most++ {
		wantArg(t, make([]int, api.MaxSymbols+1), most)
		wantArg(t, slices.Repeat([]int{1}, api.MaxSymbols+1), most)
	}
	mustLengths(t, slices.Repeat([]int{1}, api.MaxSymbols), 12)
	mustLengths(t, slices.Repeat([]int{1}, api.MaxSymbols), 16)
	wantArg(t, slices.Repeat([]int{1}, api.MaxSymbols), 11)
}

func TestAsManyThatComeAsThereAreWords(t *testing.T) { // P5.1, P5.2
	for most := 1; most <= 12; most++ {
		f := slices.Repeat([]int{1}, 1<<most)
		for s := range f {
			f[s] += s * s
		}
		// There is one list of lengths alone, whatever comes how often.
		wantLengths(t, f, most, slices.Repeat([]int{most}, 1<<most)...)
		if most < 12 {
			wantLengths(t, append(f, 0, 0), most, append(slices.Repeat([]int{most}, 1<<most), 0, 0)...)
			wantArg(t, append(f, 1), most)
			wantArg(t, append([]int{1, 0, 0}, f...), most)
		}
	}
	wantArg(t, []int{1, 1, 1}, 1)
	wantArg(t, []int{1, 0, 1, 0, 1}, 1)
}

func TestEachNumberOfSymbols(t *testing.T) { // P5.2
	d := dice(1)
	for most := 1; most <= 9; most++ {
		for n := 2; n <= 1<<most; n++ {
			f := d.frequencies(n, 1000)
			for s := range f {
				f[s]++
			}
			mustLengths(t, f, most)
		}
	}
}

func TestBestOfAllLengths(t *testing.T) { // P5.2
	for n := 2; n <= 4; n++ {
		for f := range lists(n, 0, 1, 2, 3, 5, 9) {
			for most := 1; most <= 4; most++ {
				if c := len(coming(f)); c < 2 || c > 1<<most {
					continue
				}
				wantCost(t, f, most, leastPlainly(f, most))
			}
		}
	}
}

func TestBestOfAllTrees(t *testing.T) { // P5.2
	d := dice(2)
	for _, n := range []int{5, 6, 8, 11, 16, 20, 31} {
		for _, bound := range []int{3, 10, 100, 1 << 20} {
			for range 4 {
				f := d.frequencies(n, bound)
				if d.below(2) == 0 { // few that come often, many that come seldom
					for s := range f {
						f[s] /= 1 + d.below(bound)
					}
				}
				f = append(f, 1, bound)
				for most := 1; most <= api.MaxCode; most++ {
					if len(coming(f)) <= 1<<most {
						wantCost(t, f, most, leastByTrees(f, most))
					}
				}
			}
		}
	}
}

func TestBestOfWordsThatWouldBeTooLong(t *testing.T) { // P5.2
	for n := 2; n <= 40; n++ {
		f := fibonacci(n)
		for most := 1; most <= api.MaxCode; most++ {
			if n <= 1<<most {
				wantCost(t, f, most, leastByTrees(f, most))
			}
		}
		slices.Reverse(f)
		wantCost(t, f, api.MaxCode, leastByTrees(f, api.MaxCode))
	}
	// Words of any length would cost less: the bound is reached.
	f := fibonacci(18)
	if l := mustLengths(t, f, 16); slices.Max(l) != 16 || Cost(f, l) <= leastOfAnyLength(f) {
		t.Error(l)
	}
}

func TestBestWhereNoWordIsTooLong(t *testing.T) { // P5.2
	d := dice(3)
	for _, n := range []int{2, 30, 286, 1000, api.MaxSymbols} {
		for _, bound := range []int{1, 9, 1000, 1 << 29} {
			f := d.frequencies(n, 3*bound)
			for s := range f {
				f[s] += bound // none comes so seldom that it would have more than 16 bits
			}
			wantCost(t, f, api.MaxCode, leastOfAnyLength(f))
		}
	}
	for n := 2; n <= 17; n++ {
		wantCost(t, fibonacci(n), api.MaxCode, leastOfAnyLength(fibonacci(n)))
	}
}

func TestLengthsAreTheSameEachTime(t *testing.T) { // P5.2, R4
	d := dice(4)
	equal := slices.Repeat([]int{1, 1, 2}, 100) // many lists of lengths are best
	for _, f := range [][]int{equal, d.frequencies(286, 4), d.frequencies(4096, 3)} {
		want := mustLengths(t, f, 13)
		mustLengths(t, d.frequencies(30, 50), 7)
		for range 3 {
			if l := mustLengths(t, slices.Clone(f), 13); !slices.Equal(l, want) {
				t.Error(head(l), head(want))
			}
		}
	}
}

func TestFrequenciesAreNeitherChangedNorKept(t *testing.T) { // R3
	for _, f := range [][]int{{1, 1, 2, 4}, {9, 0, 3, 1, 0}, {0, 5}, {0, 0}} {
		was := slices.Clone(f)
		l := mustLengths(t, f, 3)
		kept := slices.Clone(l)
		if !slices.Equal(f, was) {
			t.Error("changed:", was, f)
		}
		Cost(f, l)
		if !slices.Equal(f, was) || !slices.Equal(l, kept) {
			t.Error("changed:", was, f, kept, l)
		}
		for s := range f {
			f[s] = 77
		}
		if !slices.Equal(l, kept) {
			t.Error("kept:", kept, l)
		}
	}
}

func TestLengthsAreNewMemory(t *testing.T) { // R3
	for _, f := range [][]int{{1, 1, 2, 4}, {0, 7}, {0, 0, 0}} {
		l := mustLengths(t, f, 4)
		want := slices.Clone(l)
		for s := range l {
			l[s] = 99
		}
		if again := mustLengths(t, f, 4); !slices.Equal(again, want) {
			t.Error(again, want)
		}
	}
}

func wantSum(t *testing.T, f, l []int, want int) {
	t.Helper()
	if got := Cost(f, l); got != want {
		t.Errorf("Cost of %v, %v: %d, want %d", head(f), head(l), got, want)
	}
}

func TestCost(t *testing.T) { // P5.3
	wantSum(t, []int{1, 1, 2, 4}, []int{3, 3, 2, 1}, 14)
	wantSum(t, []int{1, 1, 2, 4}, []int{2, 2, 2, 2}, 16)
	wantSum(t, []int{0, 7, 0}, []int{0, 1, 0}, 7)
	wantSum(t, []int{5}, []int{0}, 0)
	wantSum(t, []int{0}, []int{5}, 0)
	wantSum(t, []int{-3, 2}, []int{4, -5}, -22)
	wantSum(t, nil, nil, 0)
}

func TestCostOfSymbolsThatBothHave(t *testing.T) { // P5.3
	wantSum(t, []int{1, 2, 3}, []int{5, 7}, 19)
	wantSum(t, []int{1, 2}, []int{5, 7, 9}, 19)
	wantSum(t, []int{1, 2}, nil, 0)
	wantSum(t, nil, []int{1, 2}, 0)
	wantSum(t, slices.Repeat([]int{3}, 5000), slices.Repeat([]int{2}, 6000), 30000) // more than MaxSymbols
}

func TestCostWrapsRound(t *testing.T) { // P5.3
	wantSum(t, []int{math.MaxInt}, []int{2}, -2)
	wantSum(t, []int{math.MaxInt, 1}, []int{1, 1}, math.MinInt)
	wantSum(t, []int{1 << 40, 1}, []int{1 << 24, 6}, 6)
	wantSum(t, []int{1 << 62, 1 << 62, 1 << 62, 1 << 62, 5}, []int{1, 1, 1, 1, 1}, 5)
	wantSum(t, []int{math.MinInt}, []int{-1}, math.MinInt)
}
