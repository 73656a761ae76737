package hist

import (
	"bytes"
	"math"
	"slices"
	"testing"

	"duffel/api"
)

// dice is a row of numbers that look thrown, and are the same in every run.
type dice uint64

func (d *dice) below(n int) int {
	*d = *d*6364136223846793005 + 1442695040888963407
	return int(uint64(*d)>>33) % n
}

// plain is an output as P7.2 has it, told byte by byte.
type plain struct {
	window, most int
	noughts      bool
	told         []byte
}

func (p *plain) lit(c byte) api.Errno {
	if len(p.told) >= p.most {
		return api.ErrSize
	}
	p.told = append(p.told, c)
	return api.OK
}

func (p *plain) copy(dist, n int) api.Errno {
	if dist < 1 || n < 0 {
		return api.ErrArg
	}
	if dist > p.window {
		return api.ErrDist
	}
	if !p.noughts && dist > len(p.told) {
		return api.ErrDist
	}
	was := p.told
	for ; n > 0; n-- {
		if len(p.told) >= p.most {
			p.told = was
			return api.ErrSize
		}
		c := byte(0)
		if at := len(p.told) - dist; at >= 0 {
			c = p.told[at]
		}
		p.told = append(p.told, c)
	}
	return api.OK
}

// call is a byte that is told (n is -100 then), or a copy.
type call struct{ dist, n int }

const aByte = -100

func lit(c byte) call { return call{int(c), aByte} }

func (c call) of(o *Out) api.Errno {
	if c.n == aByte {
		return o.Lit(byte(c.dist))
	}
	return o.Copy(c.dist, c.n)
}

func (c call) ofPlain(p *plain) api.Errno {
	if c.n == aByte {
		return p.lit(byte(c.dist))
	}
	return p.copy(c.dist, c.n)
}

func mustNew(t *testing.T, window, most int, noughts bool) *Out {
	t.Helper()
	o, e := New(window, most, noughts)
	if o == nil || e != api.OK {
		t.Fatalf("New of %d, %d, %v: error %d", window, most, noughts, e)
	}
	return o
}

// tell tells a text byte by byte.
func tell(t *testing.T, o *Out, text string) {
	t.Helper()
	for _, c := range []byte(text) {
		if e := o.Lit(c); e != api.OK {
			t.Fatalf("Lit of %q: error %d", c, e)
		}
	}
}

func wantTold(t *testing.T, o *Out, want string, full bool) {
	t.Helper()
	if b := o.Bytes(); string(b) != want {
		t.Errorf("told %d bytes, %.99q; want %d, %.99q", len(b), b, len(want), want)
	}
	if o.Len() != len(want) || o.Full() != full {
		t.Errorf("Len %d, Full %v; want %d, %v", o.Len(), o.Full(), len(want), full)
	}
}

func wantCopy(t *testing.T, o *Out, dist, n int, want api.Errno) {
	t.Helper()
	if e := o.Copy(dist, n); e != want {
		t.Errorf("Copy of %d, %d: error %d, want %d", dist, n, e, want)
	}
}

func TestNew(t *testing.T) { // P7.1
	for _, noughts := range []bool{false, true} {
		for _, window := range []int{1, 2, 4096, 65535, 65536} {
			for _, most := range []int{0, 1, 100, math.MaxInt32, math.MaxInt} {
				wantTold(t, mustNew(t, window, most, noughts), "", most == 0)
			}
		}
	}
}

func TestNewOfWrongNumbers(t *testing.T) { // P7.1
	for _, c := range [][2]int{
		{0, 1}, {-1, 1}, {65537, 1}, {math.MinInt, 1}, {math.MaxInt, 1}, {1 << 32, 1},
		{1, -1}, {65536, -1}, {1, math.MinInt}, {0, 0}, {0, -1}, {65537, -1}, {-1, math.MinInt},
	} {
		for _, noughts := range []bool{false, true} {
			if o, e := New(c[0], c[1], noughts); o != nil || e != api.ErrArg {
				t.Errorf("New of %v: %v, error %d", c, o != nil, e)
			}
		}
	}
}

func TestLit(t *testing.T) { // P7.2, P7.3
	o := mustNew(t, 1, 256, false)
	var want []byte
	for c := range 256 {
		if e := o.Lit(byte(c)); e != api.OK {
			t.Fatal(c, e)
		}
		want = append(want, byte(c))
		wantTold(t, o, string(want), c == 255)
	}
	for range 3 {
		if e := o.Lit('x'); e != api.ErrSize {
			t.Error(e)
		}
		wantTold(t, o, string(want), true)
	}
}

func TestLitWithoutRoom(t *testing.T) { // P7.2, P7.3
	o := mustNew(t, 10, 0, true)
	if e := o.Lit(0); e != api.ErrSize {
		t.Error(e)
	}
	wantTold(t, o, "", true)
}

func TestCopy(t *testing.T) { // P7.2
	for _, c := range []struct {
		text    string
		dist, n int
		want    string
	}{
		{"ab", 2, 5, "abababa"},
		{"abc", 3, 2, "abcab"},
		{"abc", 3, 3, "abcabc"},
		{"abc", 3, 4, "abcabca"},
		{"abc", 2, 1, "abcb"},
		{"abc", 2, 5, "abcbcbcb"},
		{"abc", 1, 1, "abcc"},
		{"abc", 1, 6, "abccccccc"},
		{"abcdefg", 5, 13, "abcdefgcdefgcdefgcde"},
		{"abc", 1, 0, "abc"},
		{"abc", 3, 0, "abc"},
	} {
		for _, noughts := range []bool{false, true} {
			o := mustNew(t, 7, 20, noughts)
			tell(t, o, c.text)
			wantCopy(t, o, c.dist, c.n, api.OK)
			wantTold(t, o, c.want, len(c.want) == 20)
		}
	}
}

func TestCopyOfNoughts(t *testing.T) { // P7.2
	for _, c := range []struct {
		text    string
		dist, n int
		want    string
	}{
		{"", 3, 2, "\x00\x00"},
		{"", 3, 3, "\x00\x00\x00"},
		{"", 3, 7, "\x00\x00\x00\x00\x00\x00\x00"},
		{"", 1, 1, "\x00"},
		{"", 1, 0, ""},
		{"", 100, 0, ""},
		{"", 100, 4, "\x00\x00\x00\x00"},
		{"a", 3, 1, "a\x00"},
		{"a", 3, 2, "a\x00\x00"},
		{"a", 3, 3, "a\x00\x00a"},
		{"a", 3, 8, "a\x00\x00a\x00\x00a\x00\x00"},
		{"ab", 3, 4, "ab\x00ab\x00"},
		{"abc", 4, 9, "abc\x00abc\x00abc\x00"},
		{"abc", 100, 5, "abc\x00\x00\x00\x00\x00"},
		{"abc", 3, 5, "abcabcab"},
	} {
		o := mustNew(t, 100, 100, true)
		tell(t, o, c.text)
		wantCopy(t, o, c.dist, c.n, api.OK)
		wantTold(t, o, c.want, false)
	}
}

func TestNoughtsStandAheadOfTheBeginningAlone(t *testing.T) { // P7.2
	o := mustNew(t, 3, 20, true)
	tell(t, o, "ab")
	wantCopy(t, o, 3, 1, api.OK)
	wantCopy(t, o, 3, 1, api.OK)
	wantCopy(t, o, 3, 2, api.OK)
	wantTold(t, o, "ab\x00ab\x00", false)
}

func TestCopyFromTooFar(t *testing.T) { // P7.2
	for _, n := range []int{0, 1, 5, math.MaxInt} {
		o := mustNew(t, 4, 10, false)
		wantCopy(t, o, 1, n, api.ErrDist)
		tell(t, o, "ab")
		wantCopy(t, o, 3, n, api.ErrDist)
		wantCopy(t, o, 4, n, api.ErrDist)
		tell(t, o, "cdef")
		wantCopy(t, o, 5, n, api.ErrDist)
		wantCopy(t, o, 6, n, api.ErrDist)
		wantCopy(t, o, 7, n, api.ErrDist)
		wantCopy(t, o, math.MaxInt, n, api.ErrDist)
		wantTold(t, o, "abcdef", false)
		wantCopy(t, o, 4, 4, api.OK)
		wantTold(t, o, "abcdefcdef", true)
		wantCopy(t, o, 5, n, api.ErrDist)
	}
}

func TestCopyFromTooFarWithNoughts(t *testing.T) { // P7.2
	for _, n := range []int{0, 1, 5, math.MaxInt} {
		o := mustNew(t, 4, 10, true)
		wantCopy(t, o, 5, n, api.ErrDist)
		wantCopy(t, o, math.MaxInt, n, api.ErrDist)
		tell(t, o, "abcdef")
		wantCopy(t, o, 5, n, api.ErrDist)
		wantTold(t, o, "abcdef", false)
		wantCopy(t, o, 4, 1, api.OK)
		wantTold(t, o, "abcdefc", false)
	}
}

func TestCopyOfMoreThanMayCome(t *testing.T) { // P7.2
	for _, noughts := range []bool{false, true} {
		o := mustNew(t, 100, 8, noughts)
		tell(t, o, "abc")
		for _, n := range []int{6, 7, 100, math.MaxInt32, math.MaxInt - 3, math.MaxInt - 2, math.MaxInt} {
			for dist := range 3 {
				wantCopy(t, o, dist+1, n, api.ErrSize)
			}
			wantTold(t, o, "abc", false)
		}
		wantCopy(t, o, 3, 5, api.OK)
		wantTold(t, o, "abcabcab", true)
		wantCopy(t, o, 3, 1, api.ErrSize)
		wantCopy(t, o, 3, math.MaxInt, api.ErrSize)
		wantCopy(t, o, 3, 0, api.OK)
		wantTold(t, o, "abcabcab", true)
	}
}

func TestCopyOfMoreNoughtsThanMayCome(t *testing.T) { // P7.2
	o := mustNew(t, 100, 4, true)
	wantCopy(t, o, 100, 5, api.ErrSize)
	wantTold(t, o, "", false)
	wantCopy(t, o, 100, 4, api.OK)
	wantTold(t, o, "\x00\x00\x00\x00", true)
}

func TestCopyWithTheGreatestMost(t *testing.T) { // P7.2
	o := mustNew(t, 100, math.MaxInt, false)
	tell(t, o, "abc")
	wantCopy(t, o, 3, math.MaxInt, api.ErrSize)
	wantCopy(t, o, 3, math.MaxInt-2, api.ErrSize)
	wantCopy(t, o, 3, 4, api.OK)
	wantTold(t, o, "abcabca", false)
}

func TestCopyOfWrongNumbers(t *testing.T) { // P7.2
	for _, noughts := range []bool{false, true} {
		o := mustNew(t, 100, 8, noughts)
		tell(t, o, "abc")
		for _, c := range [][2]int{
			{0, 1}, {-1, 1}, {math.MinInt, 1}, {1, -1}, {3, -1}, {1, math.MinInt}, {0, 0}, {0, -1}, {-1, -1},
			{math.MinInt, math.MinInt}, {0, 9}, {-1, math.MaxInt}, {0, math.MaxInt}, {101, -1}, {4, -1},
			{math.MaxInt, math.MinInt}, {math.MaxInt, -1},
		} {
			wantCopy(t, o, c[0], c[1], api.ErrArg)
			wantTold(t, o, "abc", false)
		}
	}
}

func TestErrorsInTheirOrder(t *testing.T) { // P7.2, R2
	o := mustNew(t, 4, 3, false)
	tell(t, o, "ab")
	wantCopy(t, o, 0, 9, api.ErrArg)  // and ErrSize
	wantCopy(t, o, 5, -1, api.ErrArg) // and ErrDist
	wantCopy(t, o, 5, 9, api.ErrDist) // and ErrSize, behind the window
	wantCopy(t, o, 3, 9, api.ErrDist) // and ErrSize, ahead of the beginning
	wantCopy(t, o, 2, 9, api.ErrSize)
	wantTold(t, o, "ab", false)
	o = mustNew(t, 4, 0, false)
	wantCopy(t, o, 1, 1, api.ErrDist)
	wantCopy(t, o, 1, 0, api.ErrDist)
	o = mustNew(t, 4, 0, true)
	wantCopy(t, o, 5, 1, api.ErrDist)
	wantCopy(t, o, 4, 1, api.ErrSize)
	wantCopy(t, o, 4, 0, api.OK)
}

func TestCopyAtTheWindow(t *testing.T) { // P7.1, P7.2
	text := make([]byte, 70000)
	for i := range text {
		text[i] = byte(i * i >> 7)
	}
	for _, window := range []int{1, 255, 256, 4096, 32768, 65535, 65536} {
		for _, noughts := range []bool{false, true} {
			o := mustNew(t, window, 2*len(text), noughts)
			tell(t, o, string(text))
			wantCopy(t, o, window+1, 1, api.ErrDist)
			wantCopy(t, o, window, 3, api.OK)
			p := &plain{window: window, most: 2 * len(text), told: slices.Clone(text)}
			p.copy(window, 3)
			wantTold(t, o, string(p.told), false)
		}
	}
}

func TestAnErrorIsNotKept(t *testing.T) { // P7.2, R2
	o := mustNew(t, 4, 6, false)
	tell(t, o, "ab")
	wantCopy(t, o, 0, 1, api.ErrArg)
	wantCopy(t, o, 3, 1, api.ErrDist)
	wantCopy(t, o, 1, 5, api.ErrSize)
	tell(t, o, "c")
	wantCopy(t, o, 3, 3, api.OK)
	if e := o.Lit('x'); e != api.ErrSize {
		t.Error(e)
	}
	wantCopy(t, o, 1, 0, api.OK)
	wantTold(t, o, "abcabc", true)
}

func TestOutThatNewDidNotMake(t *testing.T) { // P7.3, R1
	var none *Out
	for _, o := range []*Out{none, {}} {
		for range 2 {
			if e := o.Lit('a'); e != api.ErrNil {
				t.Error(e)
			}
			for _, c := range [][2]int{{1, 0}, {1, 1}, {0, 1}, {1, -1}, {math.MaxInt, math.MaxInt}, {math.MinInt, math.MinInt}} {
				wantCopy(t, o, c[0], c[1], api.ErrNil)
			}
			wantTold(t, o, "", false)
		}
	}
}

func TestBytesAreNewMemory(t *testing.T) { // P7.3, R3
	o := mustNew(t, 100, 100, false)
	tell(t, o, "abc")
	first, second := o.Bytes(), o.Bytes()
	first[0], first[2] = 'x', 'x'
	first = append(first, 'x')
	if string(second) != "abc" {
		t.Errorf("two answers share memory: %q, %q", first, second)
	}
	wantCopy(t, o, 3, 3, api.OK)
	tell(t, o, "d")
	_ = append(second, "yyy"...)
	wantTold(t, o, "abcabcd", false)
	if string(second) != "abc" {
		t.Errorf("changed by what was told behind it: %q", second)
	}
}

func TestOutsDoNotMeet(t *testing.T) { // R4
	first, second := mustNew(t, 100, 5, false), mustNew(t, 2, 5, true)
	tell(t, first, "abc")
	tell(t, second, "x")
	wantCopy(t, first, 3, 2, api.OK)
	wantCopy(t, second, 2, 3, api.OK)
	wantTold(t, first, "abcab", true)
	wantTold(t, second, "x\x00x\x00", false)
}

// wantAsPlain makes calls, one by one, and asks for what the plain output answers.
func wantAsPlain(t *testing.T, p *plain, calls []call) {
	t.Helper()
	o := mustNew(t, p.window, p.most, p.noughts)
	for i, c := range calls {
		want := c.ofPlain(p)
		if e := c.of(o); e != want || !bytes.Equal(o.Bytes(), p.told) || o.Len() != len(p.told) || o.Full() != (len(p.told) == p.most) {
			t.Fatalf("window %d, most %d, noughts %v: %v: call %d: error %d, %d bytes, full %v; want %d, %d",
				p.window, p.most, p.noughts, calls, i, e, o.Len(), o.Full(), want, len(p.told))
		}
	}
}

func TestAllPairsOfCalls(t *testing.T) { // P7.1 to P7.3
	all := []call{lit('a')}
	for dist := range 6 {
		for n := -1; n < 8; n++ {
			all = append(all, call{dist, n})
		}
	}
	for _, window := range []int{1, 2, 4} {
		for most := range 7 {
			for _, noughts := range []bool{false, true} {
				for _, first := range all {
					for _, second := range all {
						wantAsPlain(t, &plain{window: window, most: most, noughts: noughts}, []call{first, second, lit('c'), {2, 3}})
						wantAsPlain(t, &plain{window: window, most: most, noughts: noughts}, []call{lit('x'), first, lit('y'), second})
					}
				}
			}
		}
	}
}

func TestManyRowsOfCalls(t *testing.T) { // P7.1 to P7.3
	d := dice(1)
	for range 2000 {
		p := &plain{window: 1 + d.below(1+d.below(300)), most: d.below(1 + d.below(2000)), noughts: d.below(2) == 0}
		var calls []call
		for range d.below(60) {
			switch d.below(3) {
			case 0:
				calls = append(calls, lit(byte(d.below(256))))
			case 1:
				calls = append(calls, call{d.below(10), d.below(20)})
			default:
				calls = append(calls, call{d.below(350) - 2, d.below(1+d.below(400)) - 2})
			}
		}
		wantAsPlain(t, p, calls)
	}
}

func TestACopyIsItsDistanceOverAndOver(t *testing.T) { // P7.4
	text := "The quick brown fox jumps over the lazy dog"
	for dist := 1; dist <= len(text); dist++ {
		for n := range 4*dist + 2 {
			o := mustNew(t, 100, 1000, false)
			tell(t, o, text)
			wantCopy(t, o, dist, n, api.OK)
			over := bytes.Repeat([]byte(text[len(text)-dist:]), n/dist+1)
			wantTold(t, o, text+string(over[:n]), false)
		}
	}
}

func TestALongCopyIsItsDistanceOverAndOver(t *testing.T) { // P7.4
	for _, n := range []int{1<<20 - 1, 1 << 20, 3_000_001} {
		for _, dist := range []int{1, 2, 3, 7} {
			o := mustNew(t, 7, n+7, false)
			tell(t, o, "abcdefg")
			wantCopy(t, o, dist, n, api.OK)
			over := bytes.Repeat([]byte("abcdefg"[7-dist:]), n/dist+1)
			if !bytes.Equal(o.Bytes()[7:], over[:n]) || !o.Full() {
				t.Error("distance", dist, "length", n)
			}
		}
	}
}

func TestACopyIsToldInTwo(t *testing.T) { // P7.4
	for _, noughts := range []bool{false, true} {
		for dist := 1; dist <= 12; dist++ {
			if !noughts && dist > 6 {
				continue
			}
			for n := range 30 {
				for first := range n + 1 {
					whole, split := mustNew(t, 12, 40, noughts), mustNew(t, 12, 40, noughts)
					tell(t, whole, "abcdef")
					tell(t, split, "abcdef")
					wantCopy(t, whole, dist, n, api.OK)
					wantCopy(t, split, dist, first, api.OK)
					wantCopy(t, split, dist, n-first, api.OK)
					wantTold(t, split, string(whole.Bytes()), false)
				}
			}
		}
	}
}
