package token

import (
	"bytes"
	"math"
	"slices"
	"testing"

	"duffel/api"
)

// dice is a row of numbers that look thrown, and are the same in every run.
type dice uint64

func (d *dice) below(n int) int {
	*d = *d*6364136223846793005 + 1442695040888963407
	return int(uint64(*d)>>33) % n
}

func lit(c byte) api.Token { return api.Token{Lit: c} }

func cp(dist, n int) api.Token { return api.Token{Dist: dist, Len: n} }

func lits(text string) []api.Token {
	var l []api.Token
	for _, c := range []byte(text) {
		l = append(l, lit(c))
	}
	return l
}

// row is tokens, one list behind the other.
func row(parts ...[]api.Token) []api.Token { return slices.Concat(parts...) }

// out says how tokens are told.
type out struct {
	window, most int
	noughts      bool
}

func (o out) expand(l []api.Token) ([]byte, api.Errno) {
	return Expand(l, o.window, o.most, o.noughts)
}

// plain tells tokens as the chapters 7 and 8 have it, byte by byte.
func (o out) plain(l []api.Token) ([]byte, api.Errno) {
	if o.window < 1 || o.window > 65536 || o.most < 0 {
		return nil, api.ErrArg
	}
	var told []byte
	for _, t := range l {
		switch {
		case t.Len == 0:
			if len(told) >= o.most {
				return nil, api.ErrSize
			}
			told = append(told, t.Lit)
			continue
		case t.Dist < 1 || t.Len < 0:
			return nil, api.ErrArg
		case t.Dist > o.window:
			return nil, api.ErrDist
		case t.Dist > len(told) && !o.noughts:
			return nil, api.ErrDist
		}
		for n := t.Len; n > 0; n-- {
			if len(told) >= o.most {
				return nil, api.ErrSize
			}
			c := byte(0)
			if at := len(told) - t.Dist; at >= 0 {
				c = told[at]
			}
			told = append(told, c)
		}
	}
	return told, api.OK
}

func wantExpand(t *testing.T, o out, l []api.Token, want string) {
	t.Helper()
	if b, e := o.expand(l); string(b) != want || e != api.OK {
		t.Errorf("%v of %v: %.99q, error %d; want %.99q", o, l, b, e, want)
	}
}

func wantError(t *testing.T, o out, l []api.Token, want api.Errno) {
	t.Helper()
	if b, e := o.expand(l); len(b) != 0 || e != want {
		t.Errorf("%v of %v: %.99q, error %d; want %d", o, l, b, e, want)
	}
}

func wantTokens(t *testing.T, got, want []api.Token) {
	t.Helper()
	if !slices.Equal(got, want) {
		t.Errorf("%d tokens, %v; want %d, %v", len(got), got[:min(20, len(got))], len(want), want[:min(20, len(want))])
	}
}

func TestExpand(t *testing.T) { // P8.1
	for _, c := range []struct {
		l    []api.Token
		want string
	}{
		{nil, ""},
		{[]api.Token{}, ""},
		{lits("a"), "a"},
		{lits("\x00\xff\x00"), "\x00\xff\x00"},
		{row(lits("ab"), []api.Token{cp(2, 5)}), "abababa"},
		{[]api.Token{lit('a'), cp(1, 3), lit('b'), cp(2, 1), cp(6, 2)}, "aaaabaaa"},
		{row(lits("abc"), []api.Token{cp(3, 2), cp(1, 1), lit('x'), cp(7, 3)}), "abcabbxabc"},
		{[]api.Token{lit('a'), cp(1, 19)}, "aaaaaaaaaaaaaaaaaaaa"},
	} {
		for _, noughts := range []bool{false, true} {
			wantExpand(t, out{10, 20, noughts}, c.l, c.want)
		}
	}
}

func TestATokenOfLenNoughtIsAByte(t *testing.T) { // P8.1
	for _, dist := range []int{1, 5, 11, 1 << 20, -1, math.MaxInt, math.MinInt} {
		wantExpand(t, out{10, 20, false}, []api.Token{{Lit: 'a', Dist: dist}, {Lit: 'b'}, {Dist: dist}}, "ab\x00")
	}
}

func TestTheByteOfACopyIsNotTold(t *testing.T) { // P8.1
	wantExpand(t, out{10, 20, false}, []api.Token{lit('a'), {Lit: 'x', Dist: 1, Len: 2}, lit('b')}, "aaab")
}

func TestExpandWithNoughts(t *testing.T) { // P8.1
	wantExpand(t, out{3, 20, true}, []api.Token{cp(3, 2)}, "\x00\x00")
	wantExpand(t, out{3, 20, true}, []api.Token{lit('a'), cp(3, 4), lit('b')}, "a\x00\x00a\x00b")
	wantError(t, out{3, 20, false}, []api.Token{cp(3, 2)}, api.ErrDist)
	wantError(t, out{3, 20, false}, []api.Token{lit('a'), cp(3, 4), lit('b')}, api.ErrDist)
	wantError(t, out{3, 20, true}, []api.Token{cp(4, 2)}, api.ErrDist)
}

func TestExpandIntoAnOutThatMayNotBe(t *testing.T) { // P8.1
	lists := [][]api.Token{nil, lits("a"), {cp(1, 1)}, {cp(0, -1)}, {cp(70000, 70000)}}
	for _, l := range lists {
		for _, noughts := range []bool{false, true} {
			for _, c := range [][2]int{
				{0, 5}, {-1, 5}, {65537, 5}, {math.MaxInt, 5}, {math.MinInt, 5}, {5, -1}, {5, math.MinInt}, {0, -1},
			} {
				wantError(t, out{c[0], c[1], noughts}, l, api.ErrArg)
			}
		}
	}
	for _, window := range []int{1, 65536} {
		wantExpand(t, out{window, 0, false}, nil, "")
		wantExpand(t, out{window, math.MaxInt, false}, lits("abc"), "abc")
	}
}

func TestExpandOfCopiesThatMayNotBe(t *testing.T) { // P8.1
	o := out{4, 8, false}
	for _, noughts := range []bool{false, true} {
		o.noughts = noughts
		for _, wrong := range []api.Token{
			cp(0, 1), cp(-1, 1), cp(math.MinInt, 1), cp(0, math.MaxInt), cp(1, -1), cp(3, -1), cp(1, math.MinInt),
			cp(0, -1), cp(-1, -1), cp(99, -1), cp(math.MinInt, math.MinInt), cp(math.MaxInt, math.MinInt),
			{Lit: 'x', Dist: 0, Len: 3}, {Lit: 'x', Dist: 3, Len: -3},
		} {
			wantError(t, o, []api.Token{wrong}, api.ErrArg)
			wantError(t, o, row(lits("abc"), []api.Token{wrong}), api.ErrArg)
			wantError(t, o, row(lits("abcdefgh"), []api.Token{wrong}), api.ErrArg)
			wantError(t, o, row(lits("abc"), []api.Token{wrong}, lits("d")), api.ErrArg)
		}
		for _, wrong := range []api.Token{cp(5, 1), cp(6, 1), cp(math.MaxInt, 1), cp(5, 99), cp(math.MaxInt, math.MaxInt)} {
			wantError(t, o, row(lits("abcdef"), []api.Token{wrong}), api.ErrDist)
			wantError(t, o, row(lits("abcdefgh"), []api.Token{wrong}), api.ErrDist)
		}
	}
}

func TestExpandOfMoreThanMayCome(t *testing.T) { // P8.1
	for _, noughts := range []bool{false, true} {
		o := out{4, 5, noughts}
		wantExpand(t, o, lits("abcde"), "abcde")
		wantError(t, o, lits("abcdef"), api.ErrSize)
		wantExpand(t, o, []api.Token{lit('a'), cp(1, 4)}, "aaaaa")
		wantError(t, o, []api.Token{lit('a'), cp(1, 5)}, api.ErrSize)
		wantError(t, o, []api.Token{lit('a'), cp(1, 4), lit('b')}, api.ErrSize)
		wantError(t, o, []api.Token{lit('a'), cp(1, 4), cp(1, 1)}, api.ErrSize)
		wantError(t, o, []api.Token{lit('a'), cp(1, math.MaxInt)}, api.ErrSize)
		wantError(t, out{4, 0, noughts}, lits("a"), api.ErrSize)
		wantError(t, out{4, math.MaxInt, noughts}, []api.Token{lit('a'), cp(1, math.MaxInt)}, api.ErrSize)
	}
}

func TestTheFirstErrorIsAnswered(t *testing.T) { // P8.1, R5
	o := out{4, 3, false}
	wrong := []struct {
		t api.Token
		e api.Errno
	}{
		{cp(0, 1), api.ErrArg}, {cp(1, -1), api.ErrArg}, {cp(4, 1), api.ErrDist}, {cp(5, 1), api.ErrDist}, {cp(1, 2), api.ErrSize},
	}
	for _, first := range wrong {
		for _, second := range wrong {
			wantError(t, o, row(lits("ab"), []api.Token{first.t, second.t}), first.e)
			wantError(t, o, row(lits("ab"), []api.Token{first.t}, lits("cde"), []api.Token{second.t}), first.e)
		}
	}
}

func TestExpandAtTheWindow(t *testing.T) { // P8.1
	text := make([]byte, 70000)
	for i := range text {
		text[i] = byte(i * i >> 7)
	}
	for _, window := range []int{1, 256, 32768, 65535, 65536} {
		l := append(lits(string(text)), cp(window, 300))
		o := out{window, len(text) + 300, false}
		want, _ := o.plain(l)
		if b, e := o.expand(l); e != api.OK || !bytes.Equal(b, want) {
			t.Error(window, e)
		}
		l[len(text)].Dist++
		wantError(t, o, l, api.ErrDist)
	}
}

// wantAsPlain asks for what the tokens tell plainly.
func wantAsPlain(t *testing.T, o out, l []api.Token) {
	t.Helper()
	want, wantE := o.plain(l)
	if b, e := o.expand(l); e != wantE || !bytes.Equal(b, want) {
		t.Fatalf("%v of %v: %.99q, error %d; want %.99q, %d", o, l, b, e, want, wantE)
	}
}

func TestAllRowsOfThreeTokens(t *testing.T) { // P8.1
	all := []api.Token{lit('a'), lit('b'), {Lit: 'c', Dist: 9}, {Lit: 'x', Dist: 1, Len: 2}}
	for dist := -1; dist < 5; dist++ {
		for _, n := range []int{-1, 1, 2, 5} {
			all = append(all, cp(dist, n))
		}
	}
	for window := range 4 {
		for most := -1; most < 8; most++ {
			for _, noughts := range []bool{false, true} {
				for _, first := range all {
					for _, second := range all {
						for _, third := range all {
							wantAsPlain(t, out{window, most, noughts}, []api.Token{first, second, third})
						}
					}
				}
			}
		}
	}
}

// thrown throws tokens that tell more than one byte each, and of which few may not be.
func thrown(d *dice, n int) []api.Token {
	var l []api.Token
	for range n {
		switch d.below(4) {
		case 0:
			l = append(l, lit(byte(d.below(256))))
		case 1:
			l = append(l, cp(1+d.below(3), 1+d.below(9)))
		case 2:
			l = append(l, cp(1+d.below(1+2*len(l)), 1+d.below(40)))
		default:
			l = append(l, lits("abcd")...)
		}
		if d.below(200) == 0 {
			l = append(l, cp(d.below(90)-5, d.below(90)-5))
		}
	}
	return l
}

func TestManyRowsOfTokens(t *testing.T) { // P8.1
	d := dice(1)
	for range 3000 {
		l := thrown(&d, d.below(60))
		wantAsPlain(t, out{1 + d.below(1+d.below(300)), d.below(1 + d.below(2000)), d.below(2) == 0}, l)
		wantAsPlain(t, out{300, 1 << 20, d.below(2) == 0}, l)
	}
}

func TestSize(t *testing.T) { // P8.2
	for _, c := range []struct {
		l    []api.Token
		want int
	}{
		{nil, 0},
		{[]api.Token{}, 0},
		{lits("a"), 1},
		{lits("abc"), 3},
		{[]api.Token{{Lit: 'a', Dist: 7}}, 1},
		{[]api.Token{{Lit: 'a', Dist: 2, Len: 5}}, 5},
		{[]api.Token{lit('a'), lit('b'), cp(2, 5)}, 7},
		{[]api.Token{cp(0, 5), cp(-1, 6), cp(math.MaxInt, 7), cp(math.MinInt, 8)}, 26},
		{[]api.Token{cp(1, -1)}, 0},
		{[]api.Token{lit('a'), cp(1, -5), cp(1, 3), cp(1, math.MinInt), lit('b')}, 5},
		{[]api.Token{cp(1, math.MinInt), cp(1, math.MinInt), cp(1, -1)}, 0},
		{[]api.Token{cp(1, 1<<31), cp(1, 1<<31)}, 1 << 32},
	} {
		if n := Size(c.l); n != c.want {
			t.Errorf("Size of %v: %d, want %d", c.l, n, c.want)
		}
	}
}

func TestSizeAtItsGreatest(t *testing.T) { // P8.2
	const most = 1 << 62
	for _, c := range []struct {
		l    []api.Token
		want int
	}{
		{[]api.Token{cp(1, most-2)}, most - 2},
		{[]api.Token{cp(1, most-2), lit('a')}, most - 1},
		{[]api.Token{cp(1, most-1)}, most - 1},
		{[]api.Token{cp(1, most)}, most},
		{[]api.Token{cp(1, most+1)}, most},
		{[]api.Token{cp(1, math.MaxInt)}, most},
		{[]api.Token{cp(1, most-1), lit('a')}, most},
		{[]api.Token{cp(1, most-1), lit('a'), lit('b')}, most},
		{[]api.Token{lit('a'), cp(1, most-1), cp(1, 1)}, most},
		{[]api.Token{lit('a'), cp(1, math.MaxInt)}, most},
		{[]api.Token{cp(1, math.MaxInt), cp(1, math.MaxInt)}, most},
		{[]api.Token{cp(1, math.MaxInt), cp(1, math.MaxInt), cp(1, 2)}, most},
		{[]api.Token{cp(1, most), cp(1, most), cp(1, most), cp(1, most)}, most},
		{[]api.Token{cp(1, most), cp(1, -1)}, most},
		{[]api.Token{cp(1, most-1), cp(1, math.MinInt)}, most - 1},
		{slices.Repeat([]api.Token{cp(1, math.MaxInt)}, 1000), most},
	} {
		if n := Size(c.l); n != c.want {
			t.Errorf("Size of %v: %d, want %d", c.l[:min(9, len(c.l))], n, c.want)
		}
	}
}

func TestSizeIsWhatIsTold(t *testing.T) { // P8.2
	d := dice(2)
	told := 0
	for range 1000 {
		l := thrown(&d, d.below(60))
		b, e := Expand(l, 300, 1<<20, true)
		if e != api.OK {
			continue
		}
		told++
		if n := Size(l); n != len(b) {
			t.Fatalf("Size of %v: %d, told %d", l, n, len(b))
		}
	}
	if told < 500 {
		t.Error("few are told:", told)
	}
}

func TestFits(t *testing.T) { // P8.2
	s := api.Shape{Window: 10, Min: 3, Max: 6}
	for _, c := range []struct {
		t    api.Token
		want bool
	}{
		{lit(0), true}, {lit('a'), true}, {lit(255), true},
		{cp(1, 3), true}, {cp(10, 3), true}, {cp(1, 6), true}, {cp(10, 6), true}, {cp(5, 4), true},
		{cp(5, 2), false}, {cp(5, 1), false}, {cp(5, 7), false}, {cp(5, math.MaxInt), false},
		{cp(5, -1), false}, {cp(5, -3), false}, {cp(5, -6), false}, {cp(5, math.MinInt), false},
		{cp(0, 3), false}, {cp(-1, 3), false}, {cp(-10, 3), false}, {cp(math.MinInt, 3), false},
		{cp(11, 3), false}, {cp(math.MaxInt, 3), false},
		{cp(1, 0), false}, {cp(10, 0), false}, {cp(11, 0), false}, {cp(-1, 0), false}, {cp(math.MaxInt, 0), false},
		{api.Token{Lit: 'a', Dist: 1}, false},
		{api.Token{Lit: 'a', Dist: 5, Len: 4}, true},
		{api.Token{Lit: 'a', Dist: 5, Len: 7}, false},
	} {
		if Fits([]api.Token{c.t}, s) != c.want {
			t.Errorf("Fits of %v: not %v", c.t, c.want)
		}
		good := []api.Token{lit('a'), cp(1, 3), lit('b'), cp(10, 6)}
		for at := range len(good) + 1 {
			if l := slices.Insert(slices.Clone(good), at, c.t); Fits(l, s) != c.want {
				t.Errorf("Fits of %v: not %v", l, c.want)
			}
		}
	}
}

func TestFitsOfNoTokens(t *testing.T) { // P8.2
	for _, s := range []api.Shape{{}, {Window: 1, Min: 2, Max: 2}, {Window: -1, Min: 5, Max: 3}} {
		if !Fits(nil, s) || !Fits([]api.Token{}, s) {
			t.Error(s)
		}
	}
}

func TestFitsInAllSmallShapes(t *testing.T) { // P8.2
	for window := -2; window < 4; window++ {
		for least := -2; least < 5; least++ {
			for most := -2; most < 5; most++ {
				for dist := -3; dist < 6; dist++ {
					for n := -3; n < 6; n++ {
						want := n == 0 && dist == 0
						if n != 0 && n >= least && n <= most && dist >= 1 && dist <= window {
							want = true
						}
						for _, lazy := range []bool{false, true} {
							s := api.Shape{Window: window, Min: least, Max: most, Chain: least * 4096, Lazy: lazy}
							if Fits([]api.Token{cp(dist, n)}, s) != want {
								t.Fatalf("Fits of distance %d, length %d in %v: not %v", dist, n, s, want)
							}
						}
					}
				}
			}
		}
	}
}

func TestFitsAtTheGreatestNumbers(t *testing.T) { // P8.2
	s := api.Shape{Window: math.MaxInt, Min: math.MinInt, Max: math.MaxInt}
	if !Fits([]api.Token{lit('a'), cp(math.MaxInt, math.MaxInt), cp(1, math.MinInt), cp(1, -1)}, s) {
		t.Error("the greatest shape")
	}
	for _, wrong := range []api.Token{cp(0, 1), cp(math.MinInt, 1), cp(math.MaxInt, 0), cp(math.MinInt, 0)} {
		if Fits([]api.Token{wrong}, s) {
			t.Error(wrong)
		}
	}
}

func TestRuns(t *testing.T) { // P8.3
	for _, c := range []struct {
		text string
		want []api.Token
	}{
		{"", nil},
		{"a", lits("a")},
		{"ab", lits("ab")},
		{"aba", lits("aba")},
		{"aa", []api.Token{lit('a'), cp(1, 1)}},
		{"aaa", []api.Token{lit('a'), cp(1, 2)}},
		{"aaab", []api.Token{lit('a'), cp(1, 2), lit('b')}},
		{"abbb", []api.Token{lit('a'), lit('b'), cp(1, 2)}},
		{"aabb", []api.Token{lit('a'), cp(1, 1), lit('b'), cp(1, 1)}},
		{"aabaa", []api.Token{lit('a'), cp(1, 1), lit('b'), lit('a'), cp(1, 1)}},
		{"\x00\x00\xff\xff\xff\x00", []api.Token{lit(0), cp(1, 1), lit(255), cp(1, 2), lit(0)}},
		{"abababab", lits("abababab")},
	} {
		wantTokens(t, Runs([]byte(c.text)), c.want)
	}
	wantTokens(t, Runs(nil), nil)
}

// plainRun is the tokens of n times a byte, spelt out.
func plainRun(c byte, n int) []api.Token {
	if n == 0 {
		return nil
	}
	l := []api.Token{lit(c)}
	for n--; n >= 258; n -= 258 {
		l = append(l, cp(1, 258))
	}
	if n > 0 {
		l = append(l, cp(1, n))
	}
	return l
}

func TestRunsOfAllLengths(t *testing.T) { // P8.3
	for n := range 1100 {
		for _, c := range []byte{0, 'a', 255} {
			run := bytes.Repeat([]byte{c}, n)
			wantTokens(t, Runs(run), plainRun(c, n))
			between := slices.Concat([]byte("xyy"), run, []byte("zz"))
			wantTokens(t, Runs(between), row([]api.Token{lit('x'), lit('y'), cp(1, 1)}, plainRun(c, n), []api.Token{lit('z'), cp(1, 1)}))
		}
	}
}

func TestRunsAtTheLongestCopy(t *testing.T) { // P8.3
	for _, c := range []struct {
		n    int
		want []int
	}{
		{258, []int{257}}, {259, []int{258}}, {260, []int{258, 1}}, {261, []int{258, 2}},
		{516, []int{258, 257}}, {517, []int{258, 258}}, {518, []int{258, 258, 1}},
	} {
		want := []api.Token{lit('a')}
		for _, n := range c.want {
			want = append(want, cp(1, n))
		}
		wantTokens(t, Runs(bytes.Repeat([]byte("a"), c.n)), want)
	}
}

func TestRunsOfALongText(t *testing.T) { // P8.3
	wantTokens(t, Runs(bytes.Repeat([]byte("a"), 3_000_001)), plainRun('a', 3_000_001))
	wantTokens(t, Runs(bytes.Repeat([]byte("ab"), 500_000)), lits(string(bytes.Repeat([]byte("ab"), 500_000))))
	wantTokens(t, Runs(bytes.Repeat([]byte("aab"), 300_000)), slices.Repeat([]api.Token{lit('a'), cp(1, 1), lit('b')}, 300_000))
}

// plainRuns is the tokens of a text, each byte held against the one ahead.
func plainRuns(b []byte) []api.Token {
	var l []api.Token
	n := 0
	for i, c := range b {
		n++
		if i+1 == len(b) || b[i+1] != c {
			l = append(l, plainRun(c, n)...)
			n = 0
		}
	}
	return l
}

// wantRuns asks for a text's tokens, and for the text of them.
func wantRuns(t *testing.T, b []byte) {
	t.Helper()
	l := Runs(b)
	wantTokens(t, l, plainRuns(b))
	if told, e := Expand(l, 1, len(b), false); e != api.OK || !bytes.Equal(told, b) {
		t.Errorf("runs of %.99q tell %.99q, error %d", b, told, e)
	}
	if Size(l) != len(b) || !Fits(l, api.Shape{Window: 1, Min: 1, Max: 258}) {
		t.Errorf("runs of %.99q: %d bytes", b, Size(l))
	}
}

func TestRunsOfAllShortTexts(t *testing.T) { // P8.3, P8.5
	for n := range 8 {
		b := make([]byte, n)
		for {
			wantRuns(t, b)
			at := n - 1
			for at >= 0 && b[at] == 2 {
				b[at] = 0
				at--
			}
			if at < 0 {
				break
			}
			b[at]++
		}
	}
}

func TestRunsOfManyTexts(t *testing.T) { // P8.3, P8.5
	d := dice(3)
	for range 1000 {
		var b []byte
		for range d.below(30) {
			n := 1 + d.below(4)
			if d.below(4) == 0 {
				n = 1 + d.below(900)
			}
			b = append(b, bytes.Repeat([]byte{byte(d.below(256))}, n)...)
		}
		wantRuns(t, b)
	}
}

func TestWhole(t *testing.T) { // P8.4
	abc := []api.Token{lit('a'), lit('b'), cp(2, 5)}
	for _, c := range []struct {
		l    []api.Token
		n    int
		want []api.Token
	}{
		{nil, 1, nil},
		{nil, 0, nil},
		{[]api.Token{}, -1, nil},
		{lits("abc"), 1, lits("abc")},
		{abc, 1, []api.Token{lit('a'), lit('b'), cp(2, 1), cp(2, 1), cp(2, 1), cp(2, 1), cp(2, 1)}},
		{abc, 2, []api.Token{lit('a'), lit('b'), cp(2, 2), cp(2, 2), cp(2, 1)}},
		{abc, 3, []api.Token{lit('a'), lit('b'), cp(2, 3), cp(2, 2)}},
		{abc, 4, []api.Token{lit('a'), lit('b'), cp(2, 4), cp(2, 1)}},
		{abc, 5, abc},
		{abc, 6, abc},
		{abc, math.MaxInt, abc},
		{[]api.Token{cp(1, 6)}, 3, []api.Token{cp(1, 3), cp(1, 3)}},
		{[]api.Token{cp(1, 6)}, 2, []api.Token{cp(1, 2), cp(1, 2), cp(1, 2)}},
		{[]api.Token{cp(3, 4), lit('a'), cp(9, 7), cp(8, 2)}, 3,
			[]api.Token{cp(3, 3), cp(3, 1), lit('a'), cp(9, 3), cp(9, 3), cp(9, 1), cp(8, 2)}},
		{[]api.Token{cp(1, 259)}, 258, []api.Token{cp(1, 258), cp(1, 1)}},
	} {
		wantTokens(t, Whole(c.l, c.n), c.want)
	}
}

func TestWholeOfNoGreatestLength(t *testing.T) { // P8.4
	l := []api.Token{lit('a'), cp(1, 1), cp(2, math.MaxInt), {Lit: 'x', Dist: 3}, {Lit: 'y', Dist: 3, Len: 9}, cp(-1, -5)}
	for _, n := range []int{0, -1, -258, math.MinInt} {
		wantTokens(t, Whole(l, n), l)
	}
}

func TestWholeLeavesWhatIsNotTooLong(t *testing.T) { // P8.4
	l := []api.Token{
		{Lit: 'a', Dist: 5}, {Lit: 'b', Dist: 2, Len: 3}, cp(1, -1), cp(1, -7), cp(1, math.MinInt), cp(0, 2), cp(-4, 3), cp(math.MaxInt, 1),
	}
	for _, n := range []int{3, 4, 100, math.MaxInt} {
		wantTokens(t, Whole(l, n), l)
	}
}

func TestWholeOfDistancesThatMayNotBe(t *testing.T) { // P8.4
	for _, dist := range []int{0, -1, 65537, math.MaxInt, math.MinInt} {
		wantTokens(t, Whole([]api.Token{cp(dist, 5)}, 2), []api.Token{cp(dist, 2), cp(dist, 2), cp(dist, 1)})
	}
}

func TestThePiecesOfACopyHaveNoByte(t *testing.T) { // P8.4
	wantTokens(t, Whole([]api.Token{{Lit: 'x', Dist: 2, Len: 5}}, 2), []api.Token{cp(2, 2), cp(2, 2), cp(2, 1)})
}

func TestWholeOfTheGreatestLengths(t *testing.T) { // P8.4
	const half = math.MaxInt / 2
	l := []api.Token{cp(1, math.MaxInt), cp(2, math.MaxInt-1)}
	wantTokens(t, Whole(l, math.MaxInt), l)
	wantTokens(t, Whole(l, math.MaxInt-1), []api.Token{cp(1, math.MaxInt-1), cp(1, 1), cp(2, math.MaxInt-1)})
	wantTokens(t, Whole(l, half+1), []api.Token{cp(1, half+1), cp(1, half), cp(2, half+1), cp(2, half-1)})
	wantTokens(t, Whole(l, half), []api.Token{cp(1, half), cp(1, half), cp(1, 1), cp(2, half), cp(2, half)})
}

func TestWholeOfAllLengths(t *testing.T) { // P8.4
	for n := 1; n < 70; n++ {
		for length := 1; length < 140; length++ {
			var want []api.Token
			for left := length; left > 0; left -= n {
				want = append(want, cp(7, min(n, left)))
			}
			wantTokens(t, Whole([]api.Token{cp(7, length)}, n), want)
		}
	}
}

func TestWholeOfALongCopy(t *testing.T) { // P8.4
	wantTokens(t, Whole([]api.Token{cp(3, 2_000_000)}, 1), slices.Repeat([]api.Token{cp(3, 1)}, 2_000_000))
}

func TestWholeTellsWhatTheTokensTell(t *testing.T) { // P8.5
	d := dice(4)
	for range 2000 {
		l := thrown(&d, d.below(60))
		o := out{1 + d.below(300), d.below(2500), d.below(2) == 0}
		want, wantE := o.expand(l)
		for _, n := range []int{-1, 0, 1, 2, 3, 1 + d.below(50), 1000} {
			w := Whole(l, n)
			if b, e := o.expand(w); e != wantE || !bytes.Equal(b, want) {
				t.Fatalf("%v of %v, with %d at most: %.99q, error %d; want %.99q, %d", o, l, n, b, e, want, wantE)
			}
			if Size(w) != Size(l) {
				t.Fatalf("size of %v, with %d at most: %d, want %d", l, n, Size(w), Size(l))
			}
			if n > 0 && slices.ContainsFunc(w, func(t api.Token) bool { return t.Len > n }) {
				t.Fatalf("%v is longer than %d", w, n)
			}
		}
	}
}

func TestWhatIsHandedInIsNotChanged(t *testing.T) { // R3
	l := []api.Token{lit('a'), cp(1, 5), {Lit: 'x', Dist: 1, Len: 9}, lit('b')}
	was := slices.Clone(l)
	Expand(l, 10, 100, false)
	Size(l)
	Fits(l, api.Shape{Window: 9, Min: 2, Max: 9})
	for n := -1; n < 10; n++ {
		Whole(l[:3], n) // with room behind, which is not to be written to
	}
	wantTokens(t, l, was)
	text := []byte("aaabbbc")
	Runs(text[:6])
	if string(text) != "aaabbbc" {
		t.Errorf("%q", text)
	}
}

func TestAnswersAreNewMemory(t *testing.T) { // R3
	l := []api.Token{lit('a'), cp(1, 2), lit('b')}
	was := slices.Clone(l)
	for _, n := range []int{-1, 0, 1, 2, 9} {
		first, second := Whole(l, n), Whole(l, n)
		want := slices.Clone(second)
		for i := range first {
			first[i] = cp(7, 7)
		}
		wantTokens(t, second, want)
		wantTokens(t, l, was)
		l[0] = lit('x')
		wantTokens(t, second, want)
		l[0] = lit('a')
	}
	first, _ := Expand(l, 10, 10, false)
	second, _ := Expand(l, 10, 10, false)
	first[0] = 'x'
	if string(second) != "aaab" {
		t.Errorf("two answers share memory: %q", second)
	}
	runs, again := Runs([]byte("aab")), Runs([]byte("aab"))
	runs[0] = lit('x')
	wantTokens(t, again, []api.Token{lit('a'), cp(1, 1), lit('b')})
}
