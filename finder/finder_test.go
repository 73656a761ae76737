package finder

import (
	"bytes"
	"math"
	"slices"
	"strings"
	"testing"

	"duffel/api"
	"duffel/token"
)

// dice is a row of numbers that look thrown, and are the same in every run.
type dice uint64

func (d *dice) below(n int) int {
	*d = *d*6364136223846793005 + 1442695040888963407
	return int(uint64(*d)>>33) % n
}

func cp(dist, n int) api.Token { return api.Token{Dist: dist, Len: n} }

func lits(text string) []api.Token {
	var l []api.Token
	for _, c := range []byte(text) {
		l = append(l, api.Token{Lit: c})
	}
	return l
}

// row is tokens, one list behind the other.
func row(parts ...[]api.Token) []api.Token { return slices.Concat(parts...) }

func shape(window, least, most, chain int, lazy bool) api.Shape {
	return api.Shape{Window: window, Min: least, Max: most, Chain: chain, Lazy: lazy}
}

// plainFound answers what is found at a place, as the chapter has it: all places are gone through.
func plainFound(b []byte, s api.Shape, i int) (dist, length int) {
	if len(b)-i < s.Min {
		return 0, 0
	}
	looked := 0
	for place := i - 1; place >= 0 && i-place <= s.Window && looked < s.Chain; place-- {
		if string(b[place:place+s.Min]) != string(b[i:i+s.Min]) {
			continue
		}
		looked++
		n := 0
		for n < s.Max && i+n < len(b) && b[place+n] == b[i+n] {
			n++
		}
		if n > length {
			dist, length = i-place, n
		}
	}
	return dist, length
}

// plain answers a text's tokens, as the chapter has it.
func plain(b []byte, s api.Shape) []api.Token {
	var l []api.Token
	for i := 0; i < len(b); {
		dist, length := plainFound(b, s, i)
		if length > 0 && s.Lazy && length < s.Max {
			if _, later := plainFound(b, s, i+1); later > length {
				length = 0
			}
		}
		if length == 0 {
			l = append(l, api.Token{Lit: b[i]})
			i++
		} else {
			l = append(l, cp(dist, length))
			i += length
		}
	}
	return l
}

func short(l []api.Token) []api.Token { return l[:min(20, len(l))] }

func want(t *testing.T, text string, s api.Shape, wanted []api.Token) {
	t.Helper()
	if l, e := Find([]byte(text), s); e != api.OK || !slices.Equal(l, wanted) {
		t.Errorf("%.60q by %v: %d tokens, %v, error %d; want %d, %v", text, s, len(l), short(l), e, len(wanted), short(wanted))
	}
}

// wantAsPlain asks for what is found plainly, and for what follows of it.
func wantAsPlain(t *testing.T, b []byte, s api.Shape) {
	t.Helper()
	l, e := Find(b, s)
	if wanted := plain(b, s); e != api.OK || !slices.Equal(l, wanted) {
		t.Fatalf("%.60q by %v: %d tokens, %v, error %d; want %d, %v", b, s, len(l), short(l), e, len(wanted), short(wanted))
	}
	wantToTell(t, b, s, l)
}

// wantToTell asks that tokens are of the shape, and tell the text.
func wantToTell(t *testing.T, b []byte, s api.Shape, l []api.Token) {
	t.Helper()
	if !token.Fits(l, s) {
		t.Fatalf("%.60q by %v: %v are not of the shape", b, s, short(l))
	}
	if told, e := token.Expand(l, s.Window, len(b), false); e != api.OK || !bytes.Equal(told, b) {
		t.Fatalf("%.60q by %v: %v tell %.60q, error %d", b, s, short(l), told, e)
	}
}

func TestCheck(t *testing.T) { // P9.1
	good := shape(100, 3, 258, 10, false)
	for _, c := range []struct {
		change func(s *api.Shape, n int)
		right  []int
		wrong  []int
	}{
		{func(s *api.Shape, n int) { s.Window = n }, []int{1, 2, 100, 32768, 65535, 65536}, []int{0, -1, 65537, math.MaxInt, math.MinInt}},
		{func(s *api.Shape, n int) { s.Min = n }, []int{2, 3}, []int{0, 1, 4, -2, -3, 258, math.MaxInt, math.MinInt}},
		{func(s *api.Shape, n int) { s.Max = n }, []int{3, 4, 258, 65537, 65538}, []int{2, 1, 0, -3, 65539, math.MaxInt, math.MinInt}},
		{func(s *api.Shape, n int) { s.Chain = n }, []int{0, 1, 4095, 4096}, []int{-1, 4097, math.MaxInt, math.MinInt}},
	} {
		for _, n := range c.right {
			s := good
			c.change(&s, n)
			wantCheck(t, s, api.OK)
		}
		for _, n := range c.wrong {
			s := good
			c.change(&s, n)
			wantCheck(t, s, api.ErrArg)
		}
	}
}

// wantCheck asks for what Check answers, and that Find answers the same error, of any text, with no tokens.
func wantCheck(t *testing.T, s api.Shape, wanted api.Errno) {
	t.Helper()
	for _, s.Lazy = range []bool{false, true} {
		if e := Check(s); e != wanted {
			t.Errorf("Check of %v: %d, want %d", s, e, wanted)
		}
		for _, text := range []string{"", "a", "abcabcabc", strings.Repeat("a", 1000)} {
			l, e := Find([]byte(text), s)
			if e != wanted || wanted != api.OK && len(l) != 0 {
				t.Errorf("Find of %.20q by %v: %d tokens, error %d; want error %d", text, s, len(l), e, wanted)
			}
		}
	}
}

func TestCheckOfAllSmallShapes(t *testing.T) { // P9.1
	for window := -2; window < 4; window++ {
		for least := -2; least < 7; least++ {
			for most := -2; most < 7; most++ {
				for chain := -2; chain < 3; chain++ {
					wanted := api.ErrArg
					if window > 0 && (least == 2 || least == 3) && most >= least && chain >= 0 {
						wanted = api.OK
					}
					wantCheck(t, shape(window, least, most, chain, false), wanted)
				}
			}
		}
	}
	wantCheck(t, api.Shape{}, api.ErrArg)
	wantCheck(t, shape(65536, 2, 2, 0, false), api.OK)
	wantCheck(t, shape(65536, 3, 2, 0, false), api.ErrArg)
	wantCheck(t, shape(1, 3, 65538, 4096, false), api.OK)
	wantCheck(t, shape(0, 4, 65539, 4097, false), api.ErrArg)
}

func TestFind(t *testing.T) { // P9.2, P9.3
	for _, c := range []struct {
		text   string
		wanted []api.Token
	}{
		{"", nil},
		{"a", lits("a")},
		{"aaa", lits("aaa")},
		{"aaaa", row(lits("a"), []api.Token{cp(1, 3)})},
		{"abcabc", row(lits("abc"), []api.Token{cp(3, 3)})},
		{"abcabcabc", row(lits("abc"), []api.Token{cp(3, 6)})},
		{"abcab", lits("abcab")},
		{"abcdabc", row(lits("abcd"), []api.Token{cp(4, 3)})},
		{"abababa", row(lits("ab"), []api.Token{cp(2, 5)})},
		{"abcXabcYabcX", row(lits("abcX"), []api.Token{cp(4, 3)}, lits("Y"), []api.Token{cp(8, 4)})},
		{"\x00\x00\x00\x00\xff\xff\xff\xff", row(lits("\x00"), []api.Token{cp(1, 3)}, lits("\xff"), []api.Token{cp(1, 3)})},
	} {
		for _, lazy := range []bool{false, true} {
			want(t, c.text, shape(100, 3, 258, 10, lazy), c.wanted)
		}
	}
}

func TestTwoBytesAreEnoughWithMinTwo(t *testing.T) { // P9.2
	want(t, "abXabY", shape(100, 2, 258, 10, false), row(lits("abX"), []api.Token{cp(3, 2)}, lits("Y")))
	want(t, "abXabY", shape(100, 3, 258, 10, false), lits("abXabY"))
	want(t, "abXab", shape(100, 2, 258, 10, false), row(lits("abX"), []api.Token{cp(3, 2)}))
	want(t, "aaa", shape(100, 2, 258, 10, false), row(lits("a"), []api.Token{cp(1, 2)}))
	want(t, "aa", shape(100, 2, 258, 10, false), lits("aa"))
	want(t, "aba", shape(100, 2, 258, 10, true), lits("aba"))
	want(t, "ab\x00cab", shape(100, 2, 258, 10, true), row(lits("ab\x00c"), []api.Token{cp(4, 2)}))
	want(t, "ab\x00cabab\x00", shape(100, 3, 258, 10, true), row(lits("ab\x00cab"), []api.Token{cp(6, 3)}))
}

func TestTheNearestOfTheGreatest(t *testing.T) { // P9.2
	s := shape(100, 3, 258, 10, false)
	want(t, "abcdXabcdYabcd", s, row(lits("abcdX"), []api.Token{cp(5, 4)}, lits("Y"), []api.Token{cp(5, 4)}))
	want(t, "abcdXabcYabcd", s, row(lits("abcdX"), []api.Token{cp(5, 3)}, lits("Y"), []api.Token{cp(9, 4)}))
	want(t, "abcXabcdYabcd", s, row(lits("abcX"), []api.Token{cp(4, 3)}, lits("dY"), []api.Token{cp(5, 4)}))
	s.Max = 3 // of pieces that are cut the nearest one, though another one goes on longer
	want(t, "abcdXabcYabcd", s, row(lits("abcdX"), []api.Token{cp(5, 3)}, lits("Y"), []api.Token{cp(4, 3)}, lits("d")))
	s.Max = 258 // as of those that the end cuts
	want(t, "abcdXabcYabc", s, row(lits("abcdX"), []api.Token{cp(5, 3)}, lits("Y"), []api.Token{cp(4, 3)}))
}

func TestOnlyChainPlacesAreLookedAt(t *testing.T) { // P9.2
	const text = "abcdef1abcde2abcd3abc4ab5abcdef"
	ahead := row(lits("abcdef1"), []api.Token{cp(7, 5)}, lits("2"), []api.Token{cp(6, 4)}, lits("3"), []api.Token{cp(5, 3)}, lits("4ab5"))
	want(t, text, shape(100, 3, 258, 1, false), row(ahead, []api.Token{cp(7, 3), cp(25, 3)}))
	want(t, text, shape(100, 3, 258, 2, false), row(ahead, []api.Token{cp(12, 4)}, lits("ef")))
	want(t, text, shape(100, 3, 258, 3, false), row(ahead, []api.Token{cp(18, 5)}, lits("f")))
	want(t, text, shape(100, 3, 258, 4, false), row(ahead, []api.Token{cp(25, 6)}))
	want(t, text, shape(100, 3, 258, 5, false), row(ahead, []api.Token{cp(25, 6)}))
	want(t, text, shape(24, 3, 258, 5, false), row(ahead, []api.Token{cp(18, 5)}, lits("f")))
}

func TestNothingIsFoundWithoutAChain(t *testing.T) { // P9.2
	for _, text := range []string{"", "a", "aaaaaaaaa", "abcabcabc"} {
		for _, lazy := range []bool{false, true} {
			want(t, text, shape(100, 2, 258, 0, lazy), lits(text))
		}
	}
}

func TestTheWindowAndWhatIsBeyond(t *testing.T) { // P9.2
	for _, window := range []int{1, 2, 100, 255, 256, 32768, 65535, 65536} {
		for _, least := range []int{2, 3} {
			text := slices.Concat([]byte("AAA"), make([]byte, window), []byte("AAA"))
			text = text[:len(text)-3]
			copy(text[window:], "AAA")
			s := shape(window, least, 65538, 4096, false)
			for _, s.Window = range []int{window, max(1, window-1)} {
				wantAsPlain(t, text, s)
			}
		}
	}
	far := slices.Concat([]byte("abc"), make([]byte, 65536-3), []byte("abc"))
	l, _ := Find(far, shape(65536, 3, 65538, 1, false))
	if last := l[len(l)-1]; last != cp(65536, 3) {
		t.Error("at the window:", last)
	}
	l, _ = Find(far, shape(65535, 3, 65538, 1, false))
	if !slices.Equal(l[len(l)-3:], lits("abc")) {
		t.Error("behind the window:", l)
	}
	l, _ = Find(slices.Concat([]byte("abc"), make([]byte, 65537-3), []byte("abc")), shape(65536, 3, 65538, 4096, false))
	if !slices.Equal(l[len(l)-3:], lits("abc")) {
		t.Error("behind the greatest window:", l)
	}
}

func TestNoneIsLongerThanMax(t *testing.T) { // P9.2
	for _, most := range []int{3, 4, 5, 17, 258, 259, 65537, 65538} {
		text := strings.Repeat("abcde", (2*most+14)/5)
		l, e := Find([]byte(text), shape(100, 3, most, 10, true))
		if e != api.OK || len(l) < 7 || l[5] != cp(5, most) || l[6] != cp(5, most) {
			t.Errorf("most %d: %v, %d", most, short(l), e)
		}
		wantToTell(t, []byte(text), shape(100, 3, most, 10, true), l)
	}
}

func TestACopyThatWaits(t *testing.T) { // P9.3
	const text = "abcXbcdeYabcde"
	s := shape(100, 3, 258, 10, false)
	want(t, text, s, row(lits("abcXbcdeY"), []api.Token{cp(9, 3)}, lits("de")))
	s.Lazy = true
	want(t, text, s, row(lits("abcXbcdeYa"), []api.Token{cp(6, 4)}))
	// As long as the one that waits: it is not longer.
	want(t, "abcXbcdYabcd", s, row(lits("abcXbcdY"), []api.Token{cp(8, 3)}, lits("d")))
	// One waits as often as the next one is longer.
	want(t, "abcXbcdeXcdefgYabcdefg", s, row(lits("abcXbcdeX"), []api.Token{cp(4, 3)}, lits("fgYab"), []api.Token{cp(8, 5)}))
	// But not over a place where nothing longer is found, whatever stands behind that.
	want(t, "abcXcdefgYabcdefg", s, row(lits("abcXcdefgY"), []api.Token{cp(10, 3), cp(8, 4)}))
}

func TestACopyOfMaxDoesNotWait(t *testing.T) { // P9.3
	const text = "abcXbcdeYabcde"
	s := shape(100, 3, 3, 10, true)
	want(t, text, s, row(lits("abcXbcdeY"), []api.Token{cp(9, 3)}, lits("de")))
	s.Max = 4
	want(t, text, s, row(lits("abcXbcdeYa"), []api.Token{cp(6, 4)}))
}

func TestThePlaceThatWaitsIsBelowTheNext(t *testing.T) { // P9.2, P9.3
	const text = "aaaXaaaaaaa"
	want(t, text, shape(100, 3, 258, 10, false), row(lits("aaaX"), []api.Token{cp(4, 3), cp(1, 4)}))
	want(t, text, shape(100, 3, 258, 10, true), row(lits("aaaXa"), []api.Token{cp(1, 6)}))
}

// texts goes through all texts of n bytes, which are the first ones of some.
func texts(n int, bytes string, do func(b []byte)) {
	b := make([]byte, n)
	var fill func(at int)
	fill = func(at int) {
		if at == n {
			do(b)
			return
		}
		for i := range len(bytes) {
			b[at] = bytes[i]
			fill(at + 1)
		}
	}
	fill(0)
}

func TestAllShortTexts(t *testing.T) { // P9.2 to P9.4
	var shapes []api.Shape
	for _, lazy := range []bool{false, true} {
		for _, chain := range []int{1, 2, 4096} {
			for _, window := range []int{1, 3, 5, 65536} {
				for _, most := range []int{3, 4, 65538} {
					shapes = append(shapes, shape(window, 2, most, chain, lazy), shape(window, 3, most, chain, lazy))
				}
			}
		}
	}
	for n := range 10 {
		texts(n, "ab", func(b []byte) {
			for _, s := range shapes {
				wantAsPlain(t, b, s)
			}
		})
	}
	texts(6, "a\x00\xff", func(b []byte) {
		for _, s := range shapes {
			wantAsPlain(t, b, s)
		}
	})
}

// thrown throws a text of which much stood ahead already.
func thrown(d *dice, n, letters int) []byte {
	var b []byte
	for len(b) < n {
		if len(b) == 0 || d.below(3) == 0 {
			b = append(b, byte(d.below(letters)))
			continue
		}
		place := d.below(len(b))
		for range d.below(30) {
			b = append(b, b[place])
			place++
		}
	}
	return b[:n]
}

func TestManyTexts(t *testing.T) { // P9.2 to P9.4
	d := dice(3)
	for range 2000 {
		b := thrown(&d, d.below(300), 1+d.below(1+d.below(256)))
		least := 2 + d.below(2)
		wantAsPlain(t, b, shape(1+d.below(1+d.below(300)), least, least+d.below(1+d.below(40)), d.below(1+d.below(40)), d.below(2) == 0))
		wantAsPlain(t, b, shape(65536, least, 65538, 4096, true))
	}
}

func TestLongTexts(t *testing.T) { // P9.2 to P9.4
	d := dice(4)
	for _, letters := range []int{4, 256} {
		b := thrown(&d, 20000, letters)
		for _, lazy := range []bool{false, true} {
			wantAsPlain(t, b, shape(3000, 3, 258, 50, lazy))
			wantAsPlain(t, b, shape(2000, 2, 65538, 4096, lazy))
		}
	}
}

func TestRuns(t *testing.T) { // P9.4
	for _, least := range []int{2, 3} {
		for _, most := range []int{least, least + 1, 7, 258} {
			for _, chain := range []int{1, 4096} {
				for n := 1; n < 1100; n++ {
					s := shape(1+n%300, least, most, chain, n%2 == 0)
					wantRun(t, n, s)
				}
			}
		}
	}
	wantRun(t, 1<<20, shape(65536, 3, 65538, 4096, true))
	wantRun(t, 1<<20, shape(1, 2, 258, 4096, true))
	wantRun(t, 65539, shape(65536, 3, 65538, 1, true))
	wantRun(t, 65540, shape(65536, 3, 65538, 1, true))
}

// wantRun asks for no more tokens of one byte n times than there may be, that are the right ones.
func wantRun(t *testing.T, n int, s api.Shape) {
	t.Helper()
	b := bytes.Repeat([]byte{'a'}, n)
	l, e := Find(b, s)
	if most := 1 + (n-1+s.Max-1)/s.Max + s.Min; e != api.OK || len(l) > most {
		t.Fatalf("%d by %v: %d tokens, error %d; want %d tokens at most", n, s, len(l), e, most)
	}
	wantToTell(t, b, s, l)
}

func TestLookingIsNotTooLong(t *testing.T) { // R1
	// Pieces that are long, the same as many, and cut by one byte.
	var b []byte
	for i := range 40 {
		b = append(b, bytes.Repeat([]byte("abcdefghijklmnop"), 300+i%3)...)
		b = append(b, byte(i))
	}
	for _, lazy := range []bool{false, true} {
		s := shape(65536, 2, 65538, 4096, lazy)
		l, e := Find(b, s)
		if e != api.OK || len(l) > 300 {
			t.Error(len(l), e)
		}
		wantToTell(t, b, s, l)
	}
}

func TestTextsAreNeitherChangedNorKept(t *testing.T) { // R3, R4
	d := dice(5)
	b := thrown(&d, 1000, 5)
	before := slices.Clone(b)
	s := shape(500, 3, 258, 30, true)
	first, _ := Find(b, s)
	kept := slices.Clone(first)
	second, _ := Find(b, s)
	if !bytes.Equal(b, before) || !slices.Equal(first, second) {
		t.Error("the text is changed, or the second answer is another one")
	}
	for i := range second {
		second[i] = cp(-1, -1)
	}
	clear(b)
	if !slices.Equal(first, kept) {
		t.Error("the answer is shared")
	}
	if third, _ := Find(before, s); !slices.Equal(third, kept) {
		t.Error("the third answer is another one")
	}
}

func TestNilAndEmptyTexts(t *testing.T) { // P9.3, R3
	for _, b := range [][]byte{nil, {}} {
		if l, e := Find(b, shape(1, 2, 2, 1, true)); len(l) != 0 || e != api.OK {
			t.Error(l, e)
		}
		if l, e := Find(b, api.Shape{}); len(l) != 0 || e != api.ErrArg {
			t.Error(l, e)
		}
	}
}
