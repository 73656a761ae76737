package shrink

import (
	"bytes"
	"math"
	"slices"
	"strings"
	"testing"

	"duffel/api"
	"duffel/bitio"
)

// dice is a row of numbers that look thrown, and are the same in every run.
type dice uint64

func (d *dice) below(n int) int {
	*d = *d*6364136223846793005 + 1442695040888963407
	return int(uint64(*d)>>33) % n
}

// table is a table of strings by the words of chapter 10: the links of its codes.
type table struct {
	links map[int]api.Link
	given int // the code that was given out last; 256, if none was
}

func (p *table) next() int {
	for code := p.given + 1; code <= 8191; code++ {
		if _, ok := p.links[code]; !ok {
			return code
		}
	}
	return -1
}

func (p *table) add(parent int, c byte) {
	if code := p.next(); code != -1 {
		p.links[code] = api.Link{Parent: parent, Byte: c}
		p.given = code
	}
}

func (p *table) clear() {
	parents := map[int]bool{}
	for _, l := range p.links {
		parents[l.Parent] = true
	}
	kept := map[int]api.Link{}
	for code, l := range p.links {
		if parents[code] {
			kept[code] = l
		}
	}
	p.links, p.given = kept, 256
}

func (p *table) text(code int) ([]byte, bool) {
	var back []byte
	for code > 255 {
		l, ok := p.links[code]
		if !ok || len(back) > 8192 {
			return nil, false
		}
		back = append(back, l.Byte)
		code = l.Parent
	}
	if code < 0 {
		return nil, false
	}
	back = append(back, byte(code))
	slices.Reverse(back)
	return back, true
}

// plain is a reader that goes by the chapter's words.
type plain struct {
	table
	bits   []byte
	at     int
	width  int
	last   int // -1: none
	told   []byte
	steps  int
	clears int
}

func newPlain(b []byte) *plain {
	return &plain{table: table{links: map[int]api.Link{}, given: 256}, bits: b, width: 9, last: -1}
}

// code answers -1, where the bits end.
func (p *plain) code() int {
	if p.at+p.width > 8*len(p.bits) {
		return -1
	}
	code := 0
	for k := range p.width {
		code |= int(p.bits[(p.at+k)/8]>>((p.at+k)%8)&1) << k
	}
	p.at += p.width
	p.steps++
	return code
}

func (p *plain) control() api.Errno {
	switch p.code() {
	case -1:
		return api.ErrShort
	case 1:
		if p.width == 13 {
			return api.ErrCode
		}
		p.width++
	case 2:
		p.clear()
		p.clears++
	default:
		return api.ErrCode
	}
	return api.OK
}

// step reads one code, and a control code's number.
func (p *plain) step(size int) api.Errno {
	code := p.code()
	if code == -1 {
		return api.ErrShort
	}
	if code == 256 {
		return p.control()
	}
	text, ok := p.text(code)
	if !ok {
		_, linked := p.links[code]
		text, ok = p.text(p.last)
		if !ok || linked || code != p.next() {
			return api.ErrCode
		}
		text = append(text, text[0])
	}
	if len(p.told)+len(text) > size {
		return api.ErrSize
	}
	p.told = append(p.told, text...)
	if p.last != -1 {
		p.add(p.last, text[0])
	}
	p.last = code
	return api.OK
}

func (p *plain) decode(size int) api.Errno {
	if size < 0 {
		return api.ErrArg
	}
	for len(p.told) < size {
		if e := p.step(size); e != api.OK {
			return e
		}
	}
	if 8*len(p.bits)-p.at >= 8 {
		return api.ErrRest
	}
	return api.OK
}

// stream writes codes, each as wide as it must be by the control codes ahead of it.
func stream(codes ...int) []byte {
	w := bitio.New()
	width := 9
	asked := false
	for _, code := range codes {
		w.Put(uint32(code), width)
		if asked && code == 1 && width < 13 {
			width++
		}
		asked = code == 256 && !asked
	}
	return w.Bytes()
}

// want holds what Decode answers against what is wanted.
func want(t *testing.T, b []byte, size int, told string, steps int, e api.Errno) {
	t.Helper()
	was := bytes.Clone(b)
	text, n, err := Decode(b, size)
	if string(text) != told || n != steps || err != e {
		t.Fatalf("Decode(%.60x, %d): %.40q (%d bytes), %d, %v; want %.40q (%d bytes), %d, %v", b, size, text, len(text), n, err, told, len(told), steps, e)
	}
	if !bytes.Equal(b, was) {
		t.Fatalf("Decode(%.60x, %d) changed it: %.60x", was, size, b)
	}
}

// wantPlain holds Decode against the plain reader, which it answers.
func wantPlain(t *testing.T, b []byte, size int) *plain {
	t.Helper()
	p := newPlain(b)
	e := p.decode(size)
	if e != api.OK {
		want(t, b, size, "", 0, e)
		return p
	}
	want(t, b, size, string(p.told), p.steps, api.OK)
	return p
}

// wantAround asks for the size to which codes can tell, and for those beside it.
func wantAround(t *testing.T, b []byte) *plain {
	t.Helper()
	p := newPlain(b)
	p.decode(1 << 30)
	n := len(p.told)
	wantPlain(t, b, n-1)
	wantPlain(t, b, n+1)
	return wantPlain(t, b, n)
}

// P11.1, P11.2: what the chapter names, code by code.
func TestDecode(t *testing.T) {
	for _, c := range []struct {
		codes []int
		size  int
		told  string
		steps int
		e     api.Errno
	}{
		{[]int{97}, 1, "a", 1, api.OK},
		{[]int{97, 98, 257}, 4, "abab", 3, api.OK},
		{[]int{97, 98, 257, 258, 259}, 8, "ababbaba", 0, api.ErrSize},
		{[]int{97, 98, 257, 258, 259}, 9, "ababbaabb", 5, api.OK}, // 258 is ba, 259 is ab and the b of ba
		{[]int{0, 255, 257}, 4, "\x00\xff\x00\xff", 3, api.OK},
		{[]int{97, 257}, 3, "aaa", 2, api.OK},                 // 257 is just given out
		{[]int{97, 257, 258}, 6, "aaaaaa", 3, api.OK},         // and 258
		{[]int{97, 98, 258}, 4, "abbb", 3, api.OK},            // 257 is ab, 258 is just given out
		{[]int{97, 98, 259}, 4, "", 0, api.ErrCode},           // 258 is next
		{[]int{97, 258}, 3, "", 0, api.ErrCode},               // 257 is next
		{[]int{257}, 1, "", 0, api.ErrCode},                   // it is next, but there is no last code
		{[]int{258}, 1, "", 0, api.ErrCode},                   // it is not next, either
		{[]int{257, 97}, 1, "", 0, api.ErrCode},               // the first error ends it
		{[]int{511}, 1, "", 0, api.ErrCode},                   // free
		{[]int{97, 257}, 2, "", 0, api.ErrSize},               // a string that goes beyond the size
		{[]int{97, 257}, 4, "", 0, api.ErrShort},              // bits that end
		{[]int{97, 259}, 2, "", 0, api.ErrCode},               // no string, whatever the size is
		{[]int{256, 0, 97}, 1, "", 0, api.ErrCode},            // no control code of these
		{[]int{256, 3, 97}, 1, "", 0, api.ErrCode},            //
		{[]int{256, 256, 97}, 1, "", 0, api.ErrCode},          //
		{[]int{256, 257, 97}, 1, "", 0, api.ErrCode},          //
		{[]int{256, 511, 97}, 1, "", 0, api.ErrCode},          //
		{[]int{256, 2, 97}, 1, "a", 3, api.OK},                // nothing is cleared
		{[]int{256, 1, 97}, 1, "a", 3, api.OK},                // ten bits
		{[]int{256, 1, 256, 1, 97, 257}, 3, "aaa", 6, api.OK}, // eleven bits
		{[]int{256, 1, 256, 1, 256, 1, 256, 1, 97}, 1, "a", 9, api.OK},
		{[]int{256, 1, 256, 1, 256, 1, 256, 1, 256, 1, 97}, 1, "", 0, api.ErrCode}, // no more than 13
		{[]int{256, 1, 256, 1, 256, 1, 256, 1, 256, 2, 97}, 1, "a", 11, api.OK},
		{[]int{256, 1, 256, 1, 256, 1, 256, 1, 8191}, 1, "", 0, api.ErrCode},
		{[]int{256, 1, 256, 1, 97, 256, 2, 98}, 2, "ab", 8, api.OK}, // Clear leaves the width as it is
		{[]int{256, 2, 256, 2, 256, 2}, 1, "", 0, api.ErrShort},
		{[]int{97, 256, 2}, 2, "", 0, api.ErrShort},
		{[]int{97, 256}, 2, "", 0, api.ErrShort}, // a control code without its number
		{[]int{97, 256, 2}, 1, "", 0, api.ErrRest},
		{[]int{97, 98}, 1, "", 0, api.ErrRest},
		{[]int{}, 0, "", 0, api.OK},
		{[]int{97}, 0, "", 0, api.ErrRest},
		{[]int{256, 0}, 0, "", 0, api.ErrRest},
		{[]int{}, 1, "", 0, api.ErrShort},
		{[]int{97, 98}, -1, "", 0, api.ErrArg},
		{[]int{}, -1, "", 0, api.ErrArg},
		{[]int{257}, math.MinInt, "", 0, api.ErrArg},
		{[]int{97}, math.MaxInt, "", 0, api.ErrShort},
	} {
		if c.e != api.OK {
			c.told = ""
		}
		want(t, stream(c.codes...), c.size, c.told, c.steps, c.e)
		if c.size < math.MaxInt && c.size > math.MinInt {
			wantPlain(t, stream(c.codes...), c.size)
		}
	}
}

// P11.1: what Clear leaves, and what the last code is then.
func TestDecodeAfterClear(t *testing.T) {
	for _, c := range []struct {
		codes []int
		told  string
		e     api.Errno
	}{
		// 257 is ab, and nobody's parent.
		{[]int{97, 98, 256, 2, 257}, "abbb", api.OK},      // it is next once more: b, which came last, and b
		{[]int{97, 98, 256, 2, 99, 257}, "abcbc", api.OK}, // the last code stays: it is bc
		{[]int{97, 98, 256, 2, 258}, "", api.ErrCode},
		// 257 is ab, 258 is ba; the last code, 257, is let go.
		{[]int{97, 98, 257, 256, 2, 257}, "", api.ErrCode},       // next, but the last code has no string
		{[]int{97, 98, 257, 256, 2, 99, 257}, "", api.ErrCode},   // its own parent: a link, and no string
		{[]int{97, 98, 257, 256, 2, 99, 258}, "ababccc", api.OK}, // 258 is next, the last code is 99
		{[]int{97, 98, 257, 256, 2, 99, 259}, "", api.ErrCode},   //
		{[]int{97, 98, 257, 256, 2, 99, 97, 258}, "ababcaca", api.OK},
		{[]int{97, 98, 257, 256, 2, 99, 97, 256, 2, 257}, "", api.ErrCode}, // it stays so for good
		{[]int{97, 98, 257, 256, 2, 99, 97, 256, 2, 258}, "ababcaaa", api.OK},
		// 257 is ab, 258 is b and the a of ab, 259 is ab and the b of ba; the last code, 258, is let go, 257 is kept.
		{[]int{97, 98, 257, 258, 256, 2, 257}, "ababbaab", api.OK},
		{[]int{97, 98, 257, 258, 256, 2, 258}, "", api.ErrCode}, // next, but the last code has no string
		{[]int{97, 98, 257, 258, 256, 2, 97, 258}, "", api.ErrCode},
		// 258 is aaa, and let go; 257 is kept. The link of 258 has a parent that is free, till it is given out itself.
		{[]int{97, 257, 258, 256, 2, 257, 258}, "", api.ErrCode},
		{[]int{97, 257, 98, 256, 2, 257, 258}, "aaabaaba", api.OK},
		// 257 is aa, 258 is aab, 259 is ba: the last code, 259, is let go; 258, too, as it is nobody's parent.
		{[]int{97, 257, 98, 97, 259, 256, 2, 99, 258}, "", api.ErrCode},             // 259 and c: no string
		{[]int{97, 257, 98, 97, 259, 256, 2, 99, 100, 258}, "aaababacdcdc", api.OK}, // 259 is cd then
		{[]int{97, 257, 98, 97, 259, 256, 2, 99, 100, 260, 258}, "aaababacdddcdc", api.OK},
		{[]int{97, 257, 98, 97, 259, 256, 2, 99, 100, 101}, "aaababacde", api.OK},    //
		{[]int{97, 257, 98, 97, 259, 256, 2, 257, 259}, "aaababaaaaaa", api.OK},      // just given out behind 258
		{[]int{97, 257, 98, 97, 259, 256, 2, 257, 98, 259}, "aaababaaabaab", api.OK}, // 259 is aab
	} {
		b := stream(c.codes...)
		n := len(c.told)
		if c.e != api.OK {
			n = 100
		}
		steps := len(c.codes)
		if c.e != api.OK {
			steps = 0
		}
		want(t, b, n, c.told, steps, c.e)
		wantAround(t, b)
	}
}

// P11.1: a link whose parent is let go has a string once its parent has one.
func TestDecodeLooseLinks(t *testing.T) {
	// 257 is ab, 258 bc, 259 ca, 260 a and the c of ca; Clear lets all go. 257 then has the parent 259, and the byte x.
	codes := []int{97, 98, 99, 97, 259, 256, 2, 120}
	want(t, stream(append(codes, 257)...), 100, "", 0, api.ErrCode)
	want(t, stream(append(codes, 121, 257)...), 100, "", 0, api.ErrCode) // 258 is xy
	codes = append(codes, 121, 122)                                      // 259 is yz
	want(t, stream(append(codes, 257)...), 12, "abcacaxyzyzx", 11, api.OK)
	want(t, stream(append(codes, 257, 261)...), 16, "abcacaxyzyzxyzxy", 12, api.OK) // 260 is zy, 261 just given out
	wantAround(t, stream(append(codes, 257, 261, 260, 257)...))
}

// P11.1, P11.2: all rows of five codes of a chosen set, at the sizes at which something changes.
func TestDecodeAllRows(t *testing.T) {
	set := []int{97, 98, 256, 1, 2, 257, 258, 259, 260}
	row := make([]int, 5)
	var rows func(at int)
	rows = func(at int) {
		if at == len(row) {
			wantAround(t, stream(row...))
			return
		}
		for _, code := range set {
			row[at] = code
			rows(at + 1)
		}
	}
	rows(0)
}

// throw writes a row of codes that a plain reader goes along with, so that most of them have strings, and some that come
// next, or are free, or are let go.
func throw(d *dice, n, wrong int) []byte {
	w := bitio.New()
	p := newPlain(nil)
	width := 9
	for range n {
		code := choose(d, p, wrong)
		w.Put(uint32(code), width)
		if code&(1<<width-1) == 256 {
			number := 1 + d.below(2)
			w.Put(uint32(number), width)
			if number == 1 && width < 13 {
				width++
			}
		}
		p.bits = w.Bytes()
		p.step(math.MaxInt)
	}
	return w.Bytes()
}

func choose(d *dice, p *plain, wrong int) int {
	switch d.below(12) {
	case 0, 1, 2, 3:
		return 97 + d.below(3)
	case 4:
		return 256
	case 5, 6:
		return p.next() & 8191
	case 7:
		if d.below(100) < wrong {
			return d.below(8192)
		}
	}
	if code := 257 + d.below(1+len(p.links)); code != 256 {
		if _, ok := p.text(code); ok || d.below(100) < wrong {
			return code
		}
	}
	return 97
}

// P11.1, P11.2: thrown rows, which clear often.
func TestDecodeThrown(t *testing.T) {
	d := dice(11)
	ok, clears := 0, 0
	for range 6000 {
		p := wantAround(t, throw(&d, 2+d.below(40), 10))
		if len(p.told) > 0 {
			ok++
			clears += p.clears
		}
	}
	if ok < 3000 || clears < 3000 {
		t.Fatal(ok, clears)
	}
}

// P11.1: bytes that are no codes, most of them.
func TestDecodeNoise(t *testing.T) {
	d := dice(12)
	for range 20000 {
		b := make([]byte, d.below(12))
		for i := range b {
			b[i] = byte(d.below(256))
			if d.below(3) == 0 {
				b[i] = 0
			}
		}
		wantAround(t, b)
		wantPlain(t, b, d.below(12))
	}
}

// P11.2: up to seven bits may be left, whatever they are.
func TestDecodeRest(t *testing.T) {
	for n := range 40 {
		b := stream(slices.Repeat([]int{97}, n)...)
		text := strings.Repeat("a", n)
		want(t, b, n, text, n, api.OK)
		want(t, append(b, 0), n, "", 0, api.ErrRest)
		if spare := 8*len(b) - 9*n; spare > 0 {
			b[len(b)-1] |= 0xff << (8 - spare)
			want(t, b, n, text, n, api.OK)
		}
		want(t, append(b, 0xff), n, "", 0, api.ErrRest)
	}
}

// P11.1: a table that is full gives out nothing more, till it is cleared.
func TestDecodeFull(t *testing.T) {
	codes := []int{256, 1, 256, 1, 256, 1, 256, 1}
	var text []byte
	for i := range 7936 { // the last one of these gives out 8191
		codes = append(codes, i&127)
		text = append(text, byte(i&127))
	}
	codes = append(codes, 8191, 8191, 257, 8191)
	text = append(text, 126, 127, 126, 127, 0, 1, 126, 127)
	want(t, stream(codes...), len(text), string(text), len(codes), api.OK)
	wantAround(t, stream(codes...))
	// All are nobody's parent; the last code is let go with them.
	codes = append(codes, 256, 2, 8191)
	want(t, stream(codes...), len(text)+2, "", 0, api.ErrCode)
	codes[len(codes)-1] = 7 // 257 has the parent 8191, which is free
	codes = append(codes, 258)
	text = append(text, 7, 7, 7)
	want(t, stream(codes...), len(text), string(text), len(codes), api.OK)
	want(t, stream(append(codes, 257)...), len(text)+3, "", 0, api.ErrCode)
	wantAround(t, stream(codes...))
}

// P11.1: strings of all lengths, each a byte longer than the last one.
func TestDecodeChain(t *testing.T) {
	codes := []int{256, 1, 256, 1, 256, 1, 256, 1, 97}
	size := 1
	for code := 257; code < 2000; code++ {
		codes = append(codes, code)
		size += code - 255
	}
	b := stream(codes...)
	want(t, b, size, strings.Repeat("a", size), len(codes), api.OK)
	want(t, b, size-1, "", 0, api.ErrSize)
	want(t, b, size+1, "", 0, api.ErrShort)
}

// R1, R3: nothing at all; new memory.
func TestDecodeNew(t *testing.T) {
	want(t, nil, 0, "", 0, api.OK)
	want(t, nil, 1, "", 0, api.ErrShort)
	b := stream(97, 98, 257)
	one, _, _ := Decode(b, 4)
	two, _, _ := Decode(b, 4)
	one[0], one[2] = 'x', 'y'
	if string(two) != "abab" {
		t.Fatalf("%q", two)
	}
	want(t, b, 4, "abab", 3, api.OK)
}

// wantRound encodes a text, and asks for all that is promised of that.
func wantRound(t *testing.T, text []byte) (*plain, []byte) {
	t.Helper()
	was := bytes.Clone(text)
	b := Encode(text)
	if len(b) > 2*len(text)+16 {
		t.Fatalf("%.40q: %d bytes of %d", text, len(b), len(text))
	}
	if !bytes.Equal(b, Encode(text)) {
		t.Fatalf("%.40q: not the same each time", text)
	}
	p := wantPlain(t, b, len(text))
	if !bytes.Equal(p.told, text) {
		t.Fatalf("%.40q (%d bytes): %.40q (%d)", text, len(text), p.told, len(p.told))
	}
	if n := Clears(text); n != p.clears {
		t.Fatalf("%.40q: cleared %d times, not %d", text, p.clears, n)
	}
	if p.steps > 8*len(b)/9 {
		t.Fatalf("%.40q: %d steps of %d bytes", text, p.steps, len(b))
	}
	if !bytes.Equal(text, was) {
		t.Fatalf("%.40q was changed", was)
	}
	return p, b
}

// P11.3, P11.4: texts that one may look through.
func TestEncode(t *testing.T) {
	for _, c := range []struct{ text, packed string }{
		{"", ""},
		{"a", "\x61\x00"},
		{"aaa", string(stream(97, 257))},
		{"abab", string(stream(97, 98, 257))},
	} {
		_, b := wantRound(t, []byte(c.text))
		if string(b) != c.packed {
			t.Fatalf("%q: %x, want %x", c.text, b, c.packed)
		}
	}
	for _, text := range []string{
		"aa", "ab", "aaaaaaaaaaaa", "abababababab", "abcabcabcabcabc", "\x00\xff\x00\xff\x00", "the rain in spain stays mainly in the plain",
		strings.Repeat("to be or not to be, ", 500),
	} {
		wantRound(t, []byte(text))
	}
	if b := Encode(nil); len(b) != 0 || Clears(nil) != 0 {
		t.Fatal(b, Clears(nil))
	}
	wantRound(t, nil)
}

// P11.3, P11.4: all texts of few bytes.
func TestEncodeAllShort(t *testing.T) {
	for n := range 9 {
		for k := range 1 << (2 * n) {
			if n == 8 && k%7 != 0 {
				continue
			}
			text := make([]byte, n)
			for i := range text {
				text[i] = byte(k >> (2 * i) & 3)
			}
			wantRound(t, text)
		}
	}
	for c := range 256 {
		wantRound(t, []byte{byte(c)})
		wantRound(t, []byte{byte(c), byte(c), byte(c)})
		wantRound(t, []byte{byte(c), byte(c + 1)})
	}
}

// P11.3, P11.4: long texts of few and many bytes, and of pieces that come again; tables fill, and are cleared.
func TestEncodeLong(t *testing.T) {
	d := dice(13)
	for _, kinds := range []int{1, 2, 3, 16, 100, 256} {
		text := make([]byte, 70000)
		for i := range text {
			text[i] = byte(d.below(kinds))
		}
		p, b := wantRound(t, text)
		if (kinds > 2) != (p.clears > 0) {
			t.Fatal(kinds, p.clears)
		}
		if kinds <= 16 && 4*len(b) > 3*len(text) {
			t.Fatal(kinds, len(b))
		}
		if kinds == 256 && p.width != 13 {
			t.Fatal(p.width)
		}
	}
	pieces := make([]byte, 0, 150000)
	for len(pieces) < 100000 {
		from := 0
		n := 1 + d.below(60)
		if len(pieces) > n && d.below(4) > 0 {
			from = d.below(len(pieces) - n)
			pieces = append(pieces, pieces[from:from+n]...)
			continue
		}
		for range n {
			pieces = append(pieces, byte(d.below(256)))
		}
	}
	if p, _ := wantRound(t, pieces); p.clears < 3 {
		t.Fatal(p.clears)
	}
}

// P11.3: tables of few long strings, of which Clear frees next to nothing: it isn't cleared ahead of every code. While it
// is full, no code is given out next.
func TestEncodeChains(t *testing.T) {
	d := dice(14)
	var text []byte
	for c := range 16 {
		text = append(text, bytes.Repeat([]byte{byte(c)}, 130000)...)
	}
	text = append(text, bytes.Repeat([]byte{15}, 400000)...)
	for range 4000 {
		text = append(text, byte(d.below(256)))
	}
	for c := range 30 {
		text = append(text, bytes.Repeat([]byte{byte(c % 13)}, d.below(5000))...)
	}
	b := Encode(text)
	told, steps, e := Decode(b, len(text))
	if !bytes.Equal(told, text) || e != api.OK {
		t.Fatal(len(told), e)
	}
	n := Clears(text)
	if n < 5 || n > steps/32 || len(b) > len(text)/100 {
		t.Fatal(n, steps, len(b))
	}
}

// lonely answers a text in which no two bytes come side by side twice.
func lonely(n int) []byte {
	var text []byte
	for a := range 256 {
		for c := range max(0, a-1) {
			text = append(text, byte(a), byte(c))
		}
		text = append(text, byte(a))
	}
	return text[:n]
}

// P11.3: a code may ask for a width that is more than one bit greater.
func TestEncodeWiden(t *testing.T) {
	for _, c := range []struct{ n, width int }{{200, 9}, {350, 10}, {1300, 11}, {1900, 12}, {4500, 13}} {
		text := lonely(c.n)
		p, _ := wantRound(t, append(text, text[c.n-50:c.n-40]...))
		if p.width != c.width {
			t.Fatal(c.n, p.width)
		}
	}
}

// P11.3: a text of which nothing comes again has the bound, and is not far from a code a byte.
func TestEncodeBound(t *testing.T) {
	d := dice(15)
	for n := 1; n < 300; n++ {
		text := make([]byte, n)
		for i := range text {
			text[i] = byte(d.below(256))
		}
		wantRound(t, text)
	}
	wantRound(t, lonely(64000))
}

// R3: new memory.
func TestEncodeNew(t *testing.T) {
	one, two := Encode([]byte("abab")), Encode([]byte("abab"))
	one[0] = 1
	if !bytes.Equal(two, stream(97, 98, 257)) {
		t.Fatal(two)
	}
}
