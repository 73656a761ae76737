package reduce

import (
	"bytes"
	"math"
	"slices"
	"strings"
	"testing"

	"duffel/api"
	"duffel/dle"
	"duffel/follow"
)

// dice is a row of numbers that look thrown, and are the same in every run.
type dice uint64

func (d *dice) below(n int) int {
	*d = *d*6364136223846793005 + 1442695040888963407
	return int(uint64(*d)>>33) % n
}

func (d *dice) bytes(n, kinds int) []byte {
	b := make([]byte, n)
	for i := range b {
		b[i] = byte(d.below(kinds))
	}
	return b
}

// pick answers n bytes, each one of some.
func (d *dice) pick(n int, some []byte) []byte {
	b := make([]byte, n)
	for i := range b {
		b[i] = some[d.below(len(some))]
	}
	return b
}

// spell answers a number's bits as a text of noughts and ones, the lowest bit first.
func spell(x, n int) string {
	text := make([]byte, n)
	for i := range text {
		text[i] = byte('0' + x>>i&1)
	}
	return string(text)
}

// spelt are the bits of bytes.
func spelt(b []byte) string {
	var text strings.Builder
	for _, c := range b {
		text.WriteString(spell(int(c), 8))
	}
	return text.String()
}

// packed are bytes of bits that are spelt, noughts behind them up to a byte's end.
func packed(bits ...string) []byte {
	all := strings.Join(bits, "")
	b := make([]byte, (len(all)+7)/8)
	for i, bit := range all {
		if bit == '1' {
			b[i/8] |= 1 << (i % 8)
		}
	}
	return b
}

// sets are followers of few bytes, the others having none.
type sets map[byte]string

// bits are sets by the words of P12.3.
func (s sets) bits() string {
	var text strings.Builder
	for last := 255; last >= 0; last-- {
		followers := s[byte(last)]
		text.WriteString(spell(len(followers), 6))
		text.WriteString(spelt([]byte(followers)))
	}
	return text.String()
}

// places are widths by the words of P12.1.
var places = []int{0, 1, 1, 2, 2, 3, 3, 3, 3, 4, 4, 4, 4, 4, 4, 4, 4, 5, 5, 5, 5, 5, 5, 5, 5, 5, 5, 5, 5, 5, 5, 5, 5}

// behind is a byte behind another one by the words of P12.2.
func (s sets) behind(last, c byte) string {
	followers := s[last]
	switch place := strings.IndexByte(followers, c); {
	case followers == "":
		return spell(int(c), 8)
	case place >= 0:
		return "0" + spell(place, places[len(followers)])
	}
	return "1" + spell(int(c), 8)
}

// row are bytes, each behind the one ahead, the first behind a byte 0.
func (s sets) row(b []byte) string {
	var text strings.Builder
	last := byte(0)
	for _, c := range b {
		text.WriteString(s.behind(last, c))
		last = c
	}
	return text.String()
}

// stream are sets, and bytes by them.
func (s sets) stream(b string) []byte { return packed(s.bits(), s.row([]byte(b))) }

// reading is what is left of bits that are spelt.
type reading struct {
	left string
	s    [256][]byte
}

// number answers a number, or -1, where too few bits are left.
func (r *reading) number(n int) int {
	if len(r.left) < n {
		return -1
	}
	x := 0
	for i := range n {
		x += int(r.left[i]-'0') << i
	}
	r.left = r.left[n:]
	return x
}

func (r *reading) sets() api.Errno {
	for last := 255; last >= 0; last-- {
		n := r.number(6)
		if n > 32 {
			return api.ErrForm
		}
		for range n {
			c := r.number(8)
			if c < 0 {
				return api.ErrShort
			}
			r.s[last] = append(r.s[last], byte(c))
		}
		if n < 0 {
			return api.ErrShort
		}
	}
	return api.OK
}

func (r *reading) byteBehind(last byte) (byte, api.Errno) {
	followers := r.s[last]
	place := -1
	if len(followers) > 0 {
		bit := r.number(1)
		if bit < 0 {
			return 0, api.ErrShort
		}
		if bit == 0 {
			place = r.number(places[len(followers)])
			if place < 0 {
				return 0, api.ErrShort
			}
			if place >= len(followers) {
				return 0, api.ErrCode
			}
			return followers[place], api.OK
		}
	}
	c := r.number(8)
	if c < 0 {
		return 0, api.ErrShort
	}
	return byte(c), api.OK
}

// telling is a machine by the words of P13.2; it keeps what it was fed with since it was at rest.
type telling struct {
	f, size int
	told    []byte
	held    []byte
}

func (m *telling) rest() bool { return len(m.held) == 0 }
func (m *telling) full() bool { return m.rest() && len(m.told) == m.size }

func (m *telling) tell(b ...byte) api.Errno {
	m.held = nil
	m.told = append(m.told, b...)
	return api.OK
}

func (m *telling) feed(c byte) api.Errno {
	if m.full() {
		return api.ErrSize
	}
	m.held = append(m.held, c)
	powers := []int{0, 128, 64, 32, 16}[m.f]
	switch h := m.held; {
	case h[0] != 144:
		return m.tell(h[0])
	case len(h) == 2 && h[1] == 0:
		return m.tell(144)
	case len(h) == 3 && int(h[1])%powers < powers-1:
		return m.copy(256*(int(h[1])/powers)+int(h[2])+1, int(h[1])%powers+3)
	case len(h) == 4:
		return m.copy(256*(int(h[1])/powers)+int(h[3])+1, powers-1+int(h[2])+3)
	}
	return api.OK
}

func (m *telling) copy(dist, n int) api.Errno {
	if n > m.size-len(m.told) {
		return api.ErrSize
	}
	for range n {
		c := byte(0)
		if dist <= len(m.told) {
			c = m.told[len(m.told)-dist]
		}
		m.tell(c)
	}
	return api.OK
}

// decodePlainly goes by the words of P14.1.
func decodePlainly(b []byte, f, size int) ([]byte, int, api.Errno) {
	switch {
	case f < 1 || f > 4 || size < 0:
		return nil, 0, api.ErrArg
	case size == 0 && len(b) > 0:
		return nil, 0, api.ErrRest
	case size == 0:
		return nil, 0, api.OK
	}
	r, m := reading{left: spelt(b)}, telling{f: f, size: size}
	if e := r.sets(); e != api.OK {
		return nil, 0, e
	}
	steps, last := 0, byte(0)
	for !m.full() {
		c, e := r.byteBehind(last)
		if e == api.OK {
			e = m.feed(c)
		}
		if e != api.OK {
			return nil, 0, e
		}
		last = c
		steps++
	}
	if len(r.left) >= 8 {
		return nil, 0, api.ErrRest
	}
	return m.told, steps, api.OK
}

// encodePlainly goes by the words of P14.2; the layers below tell what is copied, and the best sets.
func encodePlainly(b []byte, f int) []byte {
	c, _ := dle.Encode(b, f)
	s := sets{}
	for last, followers := range follow.Best(c) {
		s[byte(last)] = string(followers)
	}
	return s.stream(string(c))
}

var factors = []int{1, 2, 3, 4}

// want asks what is decoded.
func want(t *testing.T, b []byte, f, size int, text string, steps int, e api.Errno) {
	t.Helper()
	kept := slices.Clone(b)
	got, n, err := Decode(b, f, size)
	if string(got) != text || n != steps || err != e {
		t.Fatalf("%d bytes by %d for %d: %.60q, %d, %d; want %.60q, %d, %d", len(b), f, size, got, n, err, text, steps, e)
	}
	if !bytes.Equal(b, kept) {
		t.Fatal("changed")
	}
	if n > 4*len(b) {
		t.Fatal(n, "steps of", len(b))
	}
}

// wantPlain asks what the plain reader tells.
func wantPlain(t *testing.T, b []byte, f, size int) api.Errno {
	t.Helper()
	text, steps, e := decodePlainly(b, f, size)
	want(t, b, f, size, string(text), steps, e)
	return e
}

// P14.1: of an f that is no factor, and a size below 0, whatever the bytes are.
func TestDecodeTakesFactorsAndSizes(t *testing.T) {
	right, _ := Encode([]byte("a"), 1)
	wrongSets := bytes.Repeat([]byte{255}, 192)
	for _, b := range [][]byte{nil, {}, {0}, right, append(right, 0), wrongSets} {
		for _, f := range []int{math.MinInt, -1, 0, 5, 6, 8, 256, 257, math.MaxInt} {
			for _, size := range []int{math.MinInt, -1, 0, 1, 2, math.MaxInt} {
				want(t, b, f, size, "", 0, api.ErrArg)
			}
		}
		for _, f := range factors {
			for _, size := range []int{math.MinInt, -2, -1} {
				want(t, b, f, size, "", 0, api.ErrArg)
			}
		}
	}
}

// P14.1: of size 0 there are no bytes, not even the sets.
func TestDecodeNothing(t *testing.T) {
	for _, f := range factors {
		want(t, nil, f, 0, "", 0, api.OK)
		want(t, []byte{}, f, 0, "", 0, api.OK)
		for _, b := range [][]byte{{0}, {1}, {255}, make([]byte, 191), make([]byte, 192), make([]byte, 193)} {
			want(t, b, f, 0, "", 0, api.ErrRest)
		}
		want(t, bytes.Repeat([]byte{255}, 300), f, 0, "", 0, api.ErrRest) // not ErrForm
	}
}

// P14.1: texts written out.
func TestDecodeByHand(t *testing.T) {
	none := make([]byte, 192)
	with := func(tail string) []byte { return append(slices.Clone(none), tail...) }
	for _, c := range []struct {
		b     []byte
		f     int
		text  string
		steps int
	}{
		{with("a"), 1, "a", 1},
		{with("\x00"), 4, "\x00", 1},
		{with("\x90\x00"), 1, "\x90", 2},
		{with("a\x90\x02\x00"), 1, "aaaaaa", 4},
		{with("abcd\x90\x01\x03"), 1, "abcdabcd", 7},
		{with("a\x90\x7f\x00\x00"), 1, strings.Repeat("a", 131), 5}, // more, though it is none
		{with("a\x90\x3f\x01\x00"), 2, strings.Repeat("a", 68), 5},
		{with("a\x90\x1f\x01\x00"), 3, strings.Repeat("a", 36), 5},
		{with("a\x90\x0f\x01\x00"), 4, strings.Repeat("a", 20), 5},
		{with("a\x90\x0f\x00"), 3, strings.Repeat("a", 19), 4}, // another factor, no more
		{with("a\x90\x80\x01b"), 1, "a\x00\x00\x00b", 5},       // from ahead of the text
		// a place of two bits, one of one bit, a byte that is no follower, one that has none.
		{packed(sets{0: "xya", 'a': "b"}.bits(), "001", "00", spelt([]byte("c"))), 1, "abc", 3},
		{packed(sets{0: "xya", 'a': "b"}.bits(), "001", "1", spelt([]byte("q")), spelt([]byte("q"))), 1, "aqq", 3},
		{packed(sets{0: "xya"}.bits(), "1", spelt([]byte("b"))), 1, "b", 1},
	} {
		want(t, c.b, c.f, len(c.text), c.text, c.steps, api.OK)
		wantPlain(t, c.b, c.f, len(c.text))
		want(t, append(c.b, 'd'), c.f, len(c.text), "", 0, api.ErrRest)
	}
}

// P14.1: the first byte stands behind a byte 0, and no other one does but for those that do.
func TestTheFirstByte(t *testing.T) {
	s := sets{0: "a", 'a': "b", 'b': "\x00"}
	want(t, packed(s.bits(), "00", "00", "00", "00", "00"), 1, 5, "ab\x00ab", 5, api.OK)
	for c := 1; c < 256; c++ {
		s := sets{byte(c): "x"}
		want(t, packed(s.bits(), spell(int('y'), 8)), 2, 1, "y", 1, api.OK)
	}
}

// P14.1: the byte ahead is the one that the machine was fed with, not the one that it told.
func TestTheByteAheadIsFed(t *testing.T) {
	s := sets{
		'a':  "\x90",
		144:  "\x02\x7f",
		2:    "\x00",
		127:  "\x05",
		5:    "\x01", // behind more
		0:    "b",    // behind a distance, and at the beginning
		1:    "c",
		'b':  "a",
		'c':  "\x90",
		0x33: "q",
	}
	// b a 144 2 0 b, each a place of one bit; 144 has two followers.
	b := packed(s.bits(), "00", "00", "00", "00", "00", "00")
	want(t, b, 1, 8, "baaaaaab", 6, api.OK)
	// b a 144 127 5 1 c 144 ..: a copy of 135 bytes, of which the last one is b
	b = packed(s.bits(), "00", "00", "00", "01", "00", "00", "00")
	text := strings.Repeat("ba", 69)[:137]
	want(t, b, 1, 138, text+"c", 7, api.OK)
	want(t, s.stream("ba\x90\x7f\x05\x01c"), 1, 138, text+"c", 7, api.OK)
}

// P14.1: the errors of the sets, at every cut, and each number that is too great.
func TestDecodeSets(t *testing.T) {
	s := sets{255: "ab", 200: strings.Repeat("x", 32), 0: "cde"}
	b := packed(s.bits(), s.row([]byte("c")))
	for n := range b {
		for _, size := range []int{1, 2, math.MaxInt} {
			e := api.ErrShort
			want(t, b[:n], 1, size, "", 0, e)
		}
	}
	want(t, b, 1, 1, "c", 1, api.OK)
	for n := 33; n < 64; n++ {
		for _, place := range []int{0, 1, 100, 255} {
			ahead := strings.Repeat("000000", place)
			want(t, packed(ahead, spell(n, 6)), 3, 5, "", 0, api.ErrForm) // where nothing stands behind
			want(t, packed(ahead, spell(n, 6), strings.Repeat("1", 9000)), 3, 5, "", 0, api.ErrForm)
		}
	}
	want(t, packed("000001"), 1, 1, "", 0, api.ErrShort) // 32 may be
	want(t, packed("000001", "0000"), 1, 1, "", 0, api.ErrShort)
	want(t, nil, 1, 1, "", 0, api.ErrShort)
}

// P14.1: a place that is none of a follower.
func TestDecodePlaces(t *testing.T) {
	for n := 1; n <= 32; n++ {
		followers := make([]byte, n)
		for i := range followers {
			followers[i] = byte('A' + i)
		}
		s := sets{0: string(followers)}
		for place := range 1 << places[n] {
			b := packed(s.bits(), "0", spell(place, places[n]))
			if place < n {
				want(t, b, 1, 1, string(followers[place:place+1]), 1, api.OK)
			} else {
				want(t, b, 1, 1, "", 0, api.ErrCode)
				want(t, append(b, 0, 0), 1, 1, "", 0, api.ErrCode) // ahead of ErrRest
			}
		}
	}
}

// P14.1: too few bits, also amid a copy, a place or a byte.
func TestDecodeShort(t *testing.T) {
	for _, f := range factors {
		b := sets{}.stream("ab\x90\x02\x00")
		text := "ab" + "bbbbb"
		for size := 1; size < 12; size++ {
			e := wantPlain(t, b, f, size)
			if size > len(text) && e != api.ErrShort {
				t.Fatal(size, e)
			}
		}
		want(t, b, f, math.MaxInt, "", 0, api.ErrShort)
		for n := 192; n < len(b); n++ {
			want(t, b[:n], f, len(text), "", 0, api.ErrShort)
		}
	}
	// noughts up to a byte's end may be a byte more, or a piece of one
	s := sets{0: "ab", 'a': "a"}
	bits := s.bits() + s.row([]byte("aaa"))
	for size := 3; size < 20; size++ {
		fits := len(bits)+2*(size-3) <= 8*len(packed(bits))
		if e := wantPlain(t, packed(bits), 1, size); (e == api.OK) != fits || !fits && e != api.ErrShort {
			t.Fatal(size, e)
		}
	}
}

// P14.1: a copy that has no room, whatever stands behind it.
func TestDecodeTooMuch(t *testing.T) {
	for _, f := range factors {
		for _, tail := range []string{"", "x", "xyz", strings.Repeat("\x90", 40)} {
			b := sets{}.stream("ab\x90\x04\x01" + tail)
			for size := 3; size < 9; size++ {
				want(t, b, f, size, "", 0, api.ErrSize)
			}
			if tail == "" {
				want(t, b, f, 9, "ababababa", 5, api.OK)
			}
		}
		want(t, sets{}.stream("\x90\x01\x00"), f, 3, "", 0, api.ErrSize)
		want(t, sets{}.stream("\x90\x01\x00"), f, 4, "\x00\x00\x00\x00", 3, api.OK)
	}
}

// P14.1: seven bits may be left, whatever they are; eight may not.
func TestDecodeRest(t *testing.T) {
	s := sets{0: "a", 'a': "a"}
	for n := 1; n < 40; n++ {
		text := strings.Repeat("a", n)
		bits := s.bits() + strings.Repeat("00", n)
		for extra := range 30 {
			for _, bit := range []string{"0", "1"} {
				b := packed(bits, strings.Repeat(bit, extra))
				if 8*len(b)-len(bits) < 8 {
					want(t, b, 1, n, text, n, api.OK)
				} else {
					want(t, b, 1, n, "", 0, api.ErrRest)
				}
			}
		}
	}
	// each number of bits that may be left
	left := map[int]bool{}
	for n := 1; n <= 9; n++ {
		s := sets{0: "a", 'a': "abc"} // a byte behind another one has three bits, so that all rests come
		bits := s.bits() + s.row([]byte(strings.Repeat("a", n)))
		b := packed(bits)
		left[8*len(b)-len(bits)] = true
		b[len(b)-1] |= byte(0xff << (8 - (8*len(b) - len(bits))))
		want(t, b, 3, n, strings.Repeat("a", n), n, api.OK)
		want(t, append(b, 0), 3, n, "", 0, api.ErrRest)
		want(t, append(b, 255, 255), 3, n, "", 0, api.ErrRest)
	}
	if len(left) != 8 {
		t.Fatal(left)
	}
}

// P14.1, P14.3: four steps of a byte, and no more; much text of few bits.
func TestSteps(t *testing.T) {
	zeros := sets{0: "\x00"}
	for _, n := range []int{1, 4, 5, 400, 100000} {
		b := packed(zeros.bits(), strings.Repeat("00", n))
		want(t, b, 1, n, strings.Repeat("\x00", n), n, api.OK)
	}
	copies := sets{0: "\x90", 144: "\x7f", 127: "\xff", 255: "\x00"} // 385 bytes of four steps
	for _, n := range []int{1, 2, 1000} {
		b := packed(copies.bits(), strings.Repeat("00", 4*n))
		want(t, b, 1, 385*n, strings.Repeat("\x00", 385*n), 4*n, api.OK)
		want(t, b, 1, 385*n-1, "", 0, api.ErrSize)
		want(t, b, 1, 385*n+1, "", 0, api.ErrShort)
		want(t, b, 1, math.MaxInt, "", 0, api.ErrShort)
	}
}

// throwSets are followers of some bytes that matter; places may be wrong, as followers may be of any number.
func (d *dice) throwSets(some []byte) sets {
	s := sets{}
	for _, last := range some {
		if d.below(3) > 0 {
			s[last] = string(d.pick(d.below(6), some))
		}
	}
	if d.below(4) == 0 {
		s[byte(d.below(256))] = string(d.bytes(d.below(33), 256))
	}
	return s
}

// P14.1: thrown bits behind thrown sets; of each number of bytes that may be told by them, and of those beside it.
func TestDecodeThrown(t *testing.T) {
	d := dice(141)
	some := []byte{0, 1, 2, 'a', 'b', 15, 31, 63, 127, 128, 144, 144, 255}
	seen := map[api.Errno]int{}
	for range 400 {
		s := d.throwSets(some)
		b := s.stream(string(d.pick(d.below(30), some)))
		b = append(b, d.bytes(d.below(8), 256)...)
		f := 1 + d.below(4)
		for range 12 {
			seen[wantPlain(t, b, f, d.below(60))]++
			seen[wantPlain(t, b, f, d.below(2000))]++
		}
		// what it tells to its last bits, if it stands whole
		for cut := range b {
			for _, size := range []int{cut + 1, 1 + d.below(400)} {
				seen[wantPlain(t, b[:len(b)-cut], f, size)]++
			}
			if cut > 40 {
				break
			}
		}
	}
	for _, e := range []api.Errno{api.OK, api.ErrShort, api.ErrCode, api.ErrSize, api.ErrRest} {
		if seen[e] < 50 {
			t.Error(e, seen)
		}
	}
}

// P14.1: bytes that mean nothing.
func TestDecodeNoise(t *testing.T) {
	d := dice(142)
	for range 3000 {
		b := d.bytes(d.below(400), 256)
		for i := range b { // few followers, so that the sets may end
			if d.below(8) > 0 {
				b[i] = 0
			}
		}
		wantPlain(t, b, d.below(6), d.below(50)-1)
		wantPlain(t, d.bytes(d.below(400), 256), d.below(6), d.below(50)-1)
	}
}

// P14.1: what is encoded, spoilt: each cut, each bit turned, other factors and sizes.
func TestDecodeSpoilt(t *testing.T) {
	text := []byte("she sells sea shells by the sea shore \x90 she sells sea shells")
	for _, f := range factors {
		b := mustEncode(t, text, f)
		for n := range b {
			if e := wantPlain(t, b[:n], f, len(text)); e != api.ErrShort {
				t.Fatal(f, n, e)
			}
		}
		for i := range 8 * len(b) {
			turned := slices.Clone(b)
			turned[i/8] ^= 1 << (i % 8)
			wantPlain(t, turned, f, len(text))
		}
		for size := range 2 * len(text) {
			for _, g := range factors {
				wantPlain(t, b, g, size)
			}
		}
		want(t, append(b, 0), f, len(text), "", 0, api.ErrRest)
	}
}

// P14.1, R3
func TestDecodedIsNewMemory(t *testing.T) {
	b := mustEncode(t, []byte("abcabcabc"), 1)
	one, _, _ := Decode(b, 1, 9)
	two, _, _ := Decode(b, 1, 9)
	for i := range one {
		one[i] = 'x'
	}
	_ = append(one, 'y')
	if string(two) != "abcabcabc" {
		t.Fatal(two)
	}
	for i := range b {
		b[i] = 0
	}
	if string(two) != "abcabcabc" {
		t.Fatal(two)
	}
}

func mustEncode(t *testing.T, b []byte, f int) []byte {
	t.Helper()
	out, e := Encode(b, f)
	if e != api.OK {
		t.Fatal(f, e)
	}
	return out
}

// P14.2
func TestEncodeTakesFactors(t *testing.T) {
	for _, b := range [][]byte{nil, {}, []byte("a"), []byte("aaaa")} {
		for _, f := range []int{math.MinInt, -1, 0, 5, 6, 256, math.MaxInt} {
			if out, e := Encode(b, f); len(out) != 0 || e != api.ErrArg {
				t.Error(f, out, e)
			}
		}
	}
	for _, f := range factors {
		for _, b := range [][]byte{nil, {}} {
			if out, e := Encode(b, f); len(out) != 0 || e != api.OK {
				t.Error(f, out, e)
			}
		}
	}
}

// P14.2: bits written out.
func TestEncodeByHand(t *testing.T) {
	none := string(make([]byte, 192))
	nobody := func(from, to int) string { return strings.Repeat("000000", from-to+1) } // bytes without followers
	cases := []struct {
		text string
		f    int
		want []byte
	}{
		{"a", 1, []byte(none + "a")},
		{"\x00", 2, []byte(none + "\x00")},
		{"\x90", 3, []byte(none + "\x90\x00")},
		{"abcdefgh", 4, []byte(none + "abcdefgh")},
		{"abcdabcd", 1, []byte(none + "abcd\x90\x01\x03")},
		// a stands behind a three times: one follower
		{"aaaa", 1, packed(nobody(255, 98), "100000", spelt([]byte("a")), nobody(96, 0), spelt([]byte("a")), "00", "00", "00")},
		// 0 stands behind 0 four times, as the first one does
		{"\x00\x00\x00\x00", 2, packed(nobody(255, 1), "100000", "00000000", "00", "00", "00", "00")},
		// what stands behind 144 is among the sets, too: here 0, three times
		{"\x90\x90\x90", 1, packed(nobody(255, 145), "100000", "00000000", nobody(143, 1), "100000", spell(144, 8), strings.Repeat("00", 6))},
	}
	for _, c := range cases {
		if got := mustEncode(t, []byte(c.text), c.f); !bytes.Equal(got, c.want) {
			t.Errorf("%.20q by %d: %x, not %x", c.text, c.f, got, c.want)
		}
	}
}

// P14.2: the sets are those of the bytes that copies are told by, not of the text.
func TestEncodeCopiesHaveFollowers(t *testing.T) {
	// a, and four copies of 385 bytes
	s := sets{0: "\x90", 127: "\xff", 144: "\x7f", 255: "\x00"}
	want := s.stream("a" + strings.Repeat("\x90\x7f\xff\x00", 4))
	if got := mustEncode(t, bytes.Repeat([]byte{'a'}, 1+4*385), 1); !bytes.Equal(got, want) {
		t.Errorf("%x, not %x", got, want)
	}
}

// hold asks for all that is promised of a text (P14.2, P14.3).
func hold(t *testing.T, text []byte) {
	t.Helper()
	kept := slices.Clone(text)
	for _, f := range factors {
		b := mustEncode(t, text, f)
		if !bytes.Equal(text, kept) {
			t.Fatal("changed", f)
		}
		if len(text) > 0 && !bytes.Equal(b, encodePlainly(text, f)) || len(text) == 0 && len(b) > 0 {
			t.Fatalf("%d bytes %.40q by %d: not as the words ask", len(text), text, f)
		}
		if len(b) > 2*len(text)+192 {
			t.Fatal(f, len(text), len(b))
		}
		got, steps, e := Decode(b, f, len(text))
		if !bytes.Equal(got, text) || e != api.OK {
			t.Fatalf("%.40q by %d: %.40q, %d", text, f, got, e)
		}
		c, _ := dle.Encode(text, f)
		if steps != len(c) || steps > 4*len(b) {
			t.Fatal(f, steps, len(c), len(b))
		}
	}
}

// P14.2, P14.3: all short texts of three letters, one of them the mark.
func TestAllShortTexts(t *testing.T) {
	letters := []byte{144, 'a', 0}
	for n, texts := 0, 1; n <= 5; n, texts = n+1, texts*3 {
		for x := range texts {
			b := make([]byte, n)
			for i := range b {
				b[i] = letters[x%3]
				x /= 3
			}
			hold(t, b)
		}
	}
	for c := range 256 {
		hold(t, []byte{byte(c)})
		hold(t, []byte{byte(c), 144, byte(c), byte(c)})
	}
}

// P14.2, P14.3
func TestThrownTexts(t *testing.T) {
	d := dice(143)
	for range 40 {
		hold(t, d.bytes(d.below(3000), 1+d.below(256)))
		hold(t, d.pick(d.below(1000), []byte{144, 144, byte(d.below(256)), 0}))
	}
	for n := range 40 {
		hold(t, d.bytes(n, 256))
		hold(t, bytes.Repeat([]byte{'z'}, 100*n))
		hold(t, bytes.Repeat([]byte("she sells sea shells \x90 "), n))
	}
}

// P14.3: the bound is met where marks stand that have no better followers.
func TestBound(t *testing.T) {
	for _, f := range factors {
		if b := mustEncode(t, []byte{144}, f); len(b) != 2+192 {
			t.Error(f, len(b))
		}
	}
	var text []byte // marks, and no byte twice behind another one
	for c := range 256 {
		text = append(text, 144, byte(c))
		hold(t, text)
	}
}

// P14.2, P14.3
func TestLongText(t *testing.T) {
	d := dice(144)
	var text []byte
	for len(text) < 1<<19 {
		if n := 1 + d.below(500); len(text) > n && d.below(3) > 0 {
			from := len(text) - n - d.below(min(4096, len(text)-n+1))
			from = max(0, from)
			text = append(text, text[from:from+n]...)
			continue
		}
		text = append(text, d.bytes(d.below(50), 256)...)
	}
	for _, f := range factors {
		b := mustEncode(t, text, f)
		got, steps, e := Decode(b, f, len(text))
		if !bytes.Equal(got, text) || e != api.OK || len(b) > len(text)/2 || steps > 4*len(b) {
			t.Error(f, len(got), steps, e, len(b))
		}
	}
}

// P14.2, R3, R4
func TestEncodedIsNewMemory(t *testing.T) {
	one, two := mustEncode(t, []byte("abab"), 1), mustEncode(t, []byte("abab"), 1)
	for i := range one {
		one[i] = 1
	}
	if !bytes.Equal(two, mustEncode(t, []byte("abab"), 1)) {
		t.Error(two)
	}
}
