package dle

import (
	"bytes"
	"math"
	"slices"
	"testing"

	"duffel/api"
	"duffel/finder"
)

// dice is a row of numbers that look thrown, and are the same in every run.
type dice uint64

func (d *dice) below(n int) int {
	*d = *d*6364136223846793005 + 1442695040888963407
	return int(uint64(*d)>>33) % n
}

func (d *dice) bytes(n, kinds int) []byte {
	b := make([]byte, n)
	for i := range b {
		b[i] = byte(d.below(kinds))
	}
	return b
}

// pick answers n bytes, each one of some.
func (d *dice) pick(n int, some []byte) []byte {
	b := make([]byte, n)
	for i := range b {
		b[i] = some[d.below(len(some))]
	}
	return b
}

var factors = []int{1, 2, 3, 4}

// masks are those of P13.1, as it lists them.
var masks = map[int]int{1: 127, 2: 63, 3: 31, 4: 15}

// powers are 2^(8-f).
var powers = map[int]int{1: 128, 2: 64, 3: 32, 4: 16}

// wordy is a machine by the words of P13.2, by texts for what it waits for, and bytes told one by one.
type wordy struct {
	f, size   int
	told      []byte
	waits     string
	v, length int
}

func newWordy(f, size int) *wordy { return &wordy{f: f, size: size, waits: "rest"} }

func (w *wordy) full() bool { return w.waits == "rest" && len(w.told) == w.size }

func (w *wordy) feed(c byte) api.Errno {
	if w.full() {
		return api.ErrSize
	}
	switch {
	case w.waits == "rest" && c == 144:
		w.waits = "V"
	case w.waits == "rest":
		w.told = append(w.told, c)
	case w.waits == "V" && c == 0:
		w.told = append(w.told, 144)
		w.waits = "rest"
	case w.waits == "V":
		w.v, w.length = int(c), int(c)&masks[w.f]
		w.waits = "distance"
		if w.length == masks[w.f] {
			w.waits = "more"
		}
	case w.waits == "more":
		w.length += int(c)
		w.waits = "distance"
	default:
		return w.copy(256*(w.v/powers[w.f])+int(c)+1, w.length+3)
	}
	return api.OK
}

func (w *wordy) copy(dist, n int) api.Errno {
	if len(w.told)+n > w.size {
		return api.ErrSize
	}
	for range n {
		if at := len(w.told) - dist; at >= 0 {
			w.told = append(w.told, w.told[at])
		} else {
			w.told = append(w.told, 0)
		}
	}
	w.waits = "rest"
	return api.OK
}

// encodeWordily goes by the words of P13.4.
func encodeWordily(b []byte, f int) []byte {
	s := api.Shape{Window: []int{0, 512, 1024, 2048, 4096}[f], Min: 3, Max: masks[f] + 258, Chain: 64, Lazy: true}
	l, _ := finder.Find(b, s)
	var out []byte
	at := 0
	one := func() {
		out = append(out, b[at])
		if b[at] == 144 {
			out = append(out, 0)
		}
		at++
	}
	for _, t := range l {
		if t.Len == 0 {
			one()
			continue
		}
		k := t.Len - 3
		if k > masks[f] {
			k = masks[f]
		}
		v := k + powers[f]*((t.Dist-1)/256)
		if v == 0 {
			for range t.Len {
				one()
			}
			continue
		}
		out = append(out, 144, byte(v))
		if k == masks[f] {
			out = append(out, byte(t.Len-3-masks[f]))
		}
		out = append(out, byte((t.Dist-1)%256))
		at += t.Len
	}
	return out
}

func machine(t *testing.T, f, size int) *Machine {
	t.Helper()
	m, e := New(f, size)
	if e != api.OK || m == nil {
		t.Fatal(f, size, e)
	}
	return m
}

// feedAll feeds bytes, each of which must be taken.
func feedAll(t *testing.T, m *Machine, b ...byte) {
	t.Helper()
	for i, c := range b {
		if e := m.Feed(c); e != api.OK {
			t.Fatal("byte", i, "of", len(b), ":", c, e)
		}
	}
}

// told answers the text that bytes tell, at rest and full.
func told(t *testing.T, f, size int, b []byte) []byte {
	t.Helper()
	m := machine(t, f, size)
	feedAll(t, m, b...)
	if !m.Full() || !m.Rest() {
		t.Fatal("not full at rest", f, size, len(m.Bytes()))
	}
	return m.Bytes()
}

func mustEncode(t *testing.T, b []byte, f int) []byte {
	t.Helper()
	out, e := Encode(b, f)
	if e != api.OK {
		t.Fatal(f, e)
	}
	return out
}

// holdAgainst feeds a machine and the wordy one alike, and holds all answers against one another.
func holdAgainst(t *testing.T, f, size int, b []byte) {
	t.Helper()
	m, w := machine(t, f, size), newWordy(f, size)
	for i, c := range b {
		e, want := m.Feed(c), w.feed(c)
		same := e == want && bytes.Equal(m.Bytes(), w.told) && m.Rest() == (w.waits == "rest") && m.Full() == w.full()
		if !same {
			t.Fatal("factor", f, "size", size, "bytes", b[:i+1], ":", e, want, m.Bytes(), w.told, m.Rest(), m.Full())
		}
	}
}

// P13.1, P13.2
func TestNewTakesFactorsAndSizes(t *testing.T) {
	for _, f := range []int{math.MinInt, -1, 0, 5, 6, 256, math.MaxInt} {
		for _, size := range []int{-1, 0, 9} {
			if m, e := New(f, size); m != nil || e != api.ErrArg {
				t.Error(f, size, m, e)
			}
		}
	}
	for _, f := range factors {
		for _, size := range []int{math.MinInt, -2, -1} {
			if m, e := New(f, size); m != nil || e != api.ErrArg {
				t.Error(f, size, m, e)
			}
		}
		for _, size := range []int{0, 1, 4096, 1 << 31, math.MaxInt} {
			m, e := New(f, size)
			if m == nil || e != api.OK {
				t.Fatal(f, size, m, e)
			}
			if !m.Rest() || m.Full() != (size == 0) || len(m.Bytes()) != 0 {
				t.Error(f, size, m.Rest(), m.Full(), m.Bytes())
			}
		}
	}
}

// P13.1, P13.2: each V splits at the factor's bit.
func TestEveryVAndDistance(t *testing.T) {
	var d dice = 131
	ahead := d.bytes(4200, 144) // without the mark
	for _, f := range factors {
		for v := 1; v < 256; v++ {
			for _, low := range []int{0, 1, 2, 100, 254, 255} {
				length := v%powers[f] + 3
				b := []byte{144, byte(v)}
				if length-3 == masks[f] {
					b = append(b, 5)
					length += 5
				}
				b = append(b, byte(low))
				m := machine(t, f, len(ahead)+length)
				feedAll(t, m, ahead...)
				feedAll(t, m, b...)
				w := wordy{told: slices.Clone(ahead), size: math.MaxInt}
				w.copy(256*(v/powers[f])+low+1, length)
				if !m.Full() || !bytes.Equal(m.Bytes(), w.told) {
					t.Fatal(f, v, low, len(m.Bytes()), len(w.told))
				}
			}
		}
	}
}

// P13.2: the examples, told byte by byte.
func TestStates(t *testing.T) {
	m := machine(t, 1, 7)
	steps := []struct {
		c    byte
		text string
		rest bool
	}{
		{'a', "a", true},
		{144, "a", false},
		{2, "a", false},
		{0, "aaaaaa", true},
		{144, "aaaaaa", false},
		{0, "aaaaaa\x90", true},
	}
	for _, s := range steps {
		if e := m.Feed(s.c); e != api.OK || string(m.Bytes()) != s.text || m.Rest() != s.rest {
			t.Error(s, e, m.Bytes(), m.Rest())
		}
	}
	if !m.Full() {
		t.Error("not full")
	}
}

// P13.2: the mark is a mark at rest alone.
func TestMarkElsewhere(t *testing.T) {
	m := machine(t, 1, 1000)
	feedAll(t, m, 'x', 144, 144, 0) // V is 144: length 16, and 256 back
	want := "x" + string(make([]byte, 19))
	if string(m.Bytes()) != want || !m.Rest() {
		t.Error(m.Bytes())
	}
	feedAll(t, m, 144, 127, 144, 144) // 127 and 144 more, from 145 back
	if len(m.Bytes()) != 20+127+144+3 || !m.Rest() {
		t.Error(len(m.Bytes()))
	}
}

// P13.2: with a mask, more is waited for, also where it is none; with less, it is not.
func TestMore(t *testing.T) {
	for _, f := range factors {
		for _, more := range []int{0, 1, 255} {
			n := masks[f] + more + 3
			got := told(t, f, n+1, []byte{'q', 144, byte(masks[f]), byte(more), 0})
			if string(got) != string(bytes.Repeat([]byte{'q'}, n+1)) {
				t.Error(f, more, len(got))
			}
		}
		n := masks[f] - 1 + 3
		got := told(t, f, n+1, []byte{'q', 144, byte(masks[f] - 1), 0})
		if string(got) != string(bytes.Repeat([]byte{'q'}, n+1)) {
			t.Error(f, len(got))
		}
	}
}

// P13.2: noughts stand ahead of the text, from any distance.
func TestAheadOfTheText(t *testing.T) {
	for _, f := range factors {
		top := 256 - powers[f] // length 0, and the greatest distance but for its low byte
		if got := told(t, f, 3, []byte{144, byte(top), 255}); !bytes.Equal(got, make([]byte, 3)) {
			t.Error(f, got)
		}
		if got := told(t, f, 8, []byte{'a', 'b', 144, 3, 3}); string(got) != "ab\x00\x00ab\x00\x00" {
			t.Error(f, got)
		}
	}
}

// P13.2: at rest and full, ErrSize to any byte; nothing is changed.
func TestFullTakesNothing(t *testing.T) {
	for _, size := range []int{0, 1, 5} {
		m := machine(t, 2, size)
		text := bytes.Repeat([]byte{'z'}, size)
		feedAll(t, m, text...)
		for c := range 256 {
			if e := m.Feed(byte(c)); e != api.ErrSize {
				t.Error(size, c, e)
			}
			if !m.Full() || !m.Rest() || !bytes.Equal(m.Bytes(), text) {
				t.Fatal(size, c, m.Full(), m.Rest(), m.Bytes())
			}
		}
	}
}

// P13.2: a copy that is too long leaves the machine as it was, whatever is fed behind.
func TestTooLongACopy(t *testing.T) {
	for _, f := range factors {
		m := machine(t, f, 4)
		feedAll(t, m, 'a', 'b', 144, 1)
		before := *m
		for c := range 256 {
			if e := m.Feed(byte(c)); e != api.ErrSize {
				t.Error(f, c, e)
			}
			if *m != before || m.Rest() || m.Full() || string(m.Bytes()) != "ab" {
				t.Fatal(f, c, m.Rest(), m.Full(), m.Bytes())
			}
		}
	}
}

// P13.2: a copy may fill the text to its last byte, and not go beyond it.
func TestCopyToTheEnd(t *testing.T) {
	for _, f := range factors {
		for room := range 12 {
			m := machine(t, f, 1+room)
			m.Feed('a')
			e := api.OK
			for _, c := range []byte{144, 4, 0} {
				e = max(e, m.Feed(c))
			}
			if fits := room >= 7; (e == api.OK) != fits || m.Full() != (room == 7 || room == 0) {
				t.Error(f, room, e, m.Full())
			}
		}
	}
}

// P13.2, P13.3: all short rows of bytes that matter.
func TestAllShortRows(t *testing.T) {
	some := []byte{0, 1, 'a', 15, 31, 63, 127, 144, 255}
	row := make([]byte, 5)
	if testing.Short() {
		row = row[:4]
	}
	var from func(at int) // goes through all that stands from a place on
	from = func(at int) {
		if at == len(row) {
			for _, f := range factors {
				for _, size := range []int{0, 1, 2, 3, 5, 600} {
					holdAgainst(t, f, size, row)
				}
			}
			return
		}
		for _, c := range some {
			row[at] = c
			from(at + 1)
		}
	}
	from(0)
}

// P13.2, P13.3
func TestThrownRows(t *testing.T) {
	var d dice = 132
	some := []byte{0, 1, 2, 'a', 'b', 'c', 15, 16, 31, 63, 127, 128, 144, 144, 144, 240, 255}
	for range 800 {
		f := 1 + d.below(4)
		holdAgainst(t, f, d.below(3000), d.pick(d.below(120), some))
		holdAgainst(t, f, d.below(3000), d.bytes(d.below(120), 256))
	}
}

// P13.3, R3
func TestBytesAreNewMemory(t *testing.T) {
	m := machine(t, 1, 9)
	feedAll(t, m, 'a', 'b')
	b := m.Bytes()
	b[0] = 'x'
	_ = append(b, 'y')
	feedAll(t, m, 144, 1, 1)
	if string(m.Bytes()) != "ababab" {
		t.Error(m.Bytes())
	}
	if m.Bytes()[0] = 'q'; string(m.Bytes()) != "ababab" {
		t.Error(m.Bytes())
	}
}

// P13.3: full is only who is at rest, too.
func TestFullAndRest(t *testing.T) {
	m := machine(t, 1, 1)
	feedAll(t, m, 144)
	if m.Full() || m.Rest() {
		t.Error(m.Full(), m.Rest())
	}
	feedAll(t, m, 0)
	if !m.Full() || !m.Rest() || string(m.Bytes()) != "\x90" {
		t.Error(m.Full(), m.Rest(), m.Bytes())
	}
	n := machine(t, 1, 0)
	if !n.Full() || !n.Rest() || len(n.Bytes()) != 0 {
		t.Error(n.Full(), n.Rest(), n.Bytes())
	}
}

// P13.3
func TestMachinesThatNewDidNotMake(t *testing.T) {
	var zero Machine
	for _, m := range []*Machine{nil, &zero, {}} {
		for _, c := range []byte{0, 'a', 144, 0, 144, 127, 1, 1} {
			if e := m.Feed(c); e != api.ErrNil {
				t.Error(c, e)
			}
			if m.Bytes() != nil || m.Full() || m.Rest() {
				t.Error(m.Bytes(), m.Full(), m.Rest())
			}
		}
	}
	if zero != (Machine{}) {
		t.Error("changed")
	}
}

// R4: two machines have nothing to do with one another.
func TestMachinesAlone(t *testing.T) {
	a, b := machine(t, 1, 50), machine(t, 4, 50)
	feedAll(t, a, 'a', 144)
	feedAll(t, b, 'b', 144, 15, 0)
	feedAll(t, a, 0)
	feedAll(t, b, 0)
	if string(a.Bytes()) != "a\x90" || string(b.Bytes()) != string(bytes.Repeat([]byte{'b'}, 19)) {
		t.Error(a.Bytes(), b.Bytes())
	}
}

// P13.4
func TestEncodeTakesFactors(t *testing.T) {
	for _, f := range []int{math.MinInt, -1, 0, 5, math.MaxInt} {
		for _, b := range [][]byte{nil, {}, []byte("aaaa")} {
			if out, e := Encode(b, f); len(out) != 0 || e != api.ErrArg {
				t.Error(f, b, out, e)
			}
		}
	}
	for _, f := range factors {
		for _, b := range [][]byte{nil, {}} {
			if out, e := Encode(b, f); len(out) != 0 || e != api.OK {
				t.Error(f, out, e)
			}
		}
	}
}

// P13.4: bytes written out by hand.
func TestEncodeByHand(t *testing.T) {
	run := func(n int) string { return string(bytes.Repeat([]byte{'a'}, n)) }
	far := make([]byte, 0, 300) // no three bytes of it come twice
	for i := range 150 {
		far = append(far, byte(i%128), byte(200+i/128))
	}
	cases := []struct {
		text string
		f    int
		want string
	}{
		{"abc", 1, "abc"},
		{"\x90", 1, "\x90\x00"},
		{"\x90\x90", 4, "\x90\x00\x90\x00"},
		{run(4), 1, run(4)}, // a copy of 3 from near: V would be 0
		{run(5), 1, "a\x90\x01\x00"},
		{run(6), 1, "a\x90\x02\x00"},
		{"ab\x90ab\x90", 2, "ab\x90\x00ab\x90\x00"}, // as above, with the mark among its bytes
		{"ab\x90dab\x90d", 2, "ab\x90\x00d\x90\x01\x03"},
		{run(1 + 3 + 126), 1, "a\x90\x7e\x00"},
		{run(1 + 3 + 127), 1, "a\x90\x7f\x00\x00"},
		{run(1 + 3 + 128), 1, "a\x90\x7f\x01\x00"},
		{run(1 + 3 + 127 + 255), 1, "a\x90\x7f\xff\x00"},
		{run(1 + 3 + 127 + 256), 1, "a\x90\x7f\xff\x00a"},
		{run(1 + 3 + 63), 2, "a\x90\x3f\x00\x00"},
		{run(1 + 3 + 31), 3, "a\x90\x1f\x00\x00"},
		{run(1 + 3 + 14), 4, "a\x90\x0e\x00"},
		{run(1 + 3 + 15), 4, "a\x90\x0f\x00\x00"},
		{run(1 + 3 + 15 + 255), 4, "a\x90\x0f\xff\x00"},
		{"xyz" + string(far[:252]) + "xyz", 1, "xyz" + string(far[:252]) + "xyz"},          // 255 back
		{"xyz" + string(far[:253]) + "xyz", 1, "xyz" + string(far[:253]) + "xyz"},          // 256 back
		{"xyz" + string(far[:254]) + "xyz", 1, "xyz" + string(far[:254]) + "\x90\x80\x00"}, // 257 back
		{"xyz" + string(far[:254]) + "xyz", 4, "xyz" + string(far[:254]) + "\x90\x10\x00"},
	}
	for _, c := range cases {
		got := mustEncode(t, []byte(c.text), c.f)
		if string(got) != c.want {
			t.Errorf("%q by %d: %q, not %q", c.text, c.f, got, c.want)
		}
	}
}

// P13.4: the window is 256 * 2^f.
func TestEncodeWindow(t *testing.T) {
	for _, f := range factors {
		for _, over := range []int{0, 1} {
			window := 256 * (256 / powers[f])
			b := append([]byte("xyzw"), make([]byte, window-4+over)...)
			b = append(b, "xyzw"...)
			out := mustEncode(t, b, f)
			copied := bytes.HasSuffix(out, []byte{144, byte(256 - powers[f] + 1), 255})
			if copied != (over == 0) || bytes.HasSuffix(out, []byte("xyzw")) != (over == 1) {
				t.Error(f, over, out)
			}
		}
	}
}

// P13.4, P13.5
func hold(t *testing.T, b []byte) {
	t.Helper()
	kept := slices.Clone(b)
	for _, f := range factors {
		out := mustEncode(t, b, f)
		if !bytes.Equal(b, kept) {
			t.Fatal("changed", f)
		}
		if want := encodeWordily(b, f); !bytes.Equal(out, want) {
			t.Fatal(f, b, out, want)
		}
		if got := told(t, f, len(b), out); !bytes.Equal(got, b) {
			t.Fatal(f, b, got)
		}
		if len(out) > 2*len(b) {
			t.Fatal("too long", f, len(out), len(b))
		}
	}
}

// P13.4, P13.5: all short texts of three letters, one of them the mark.
func TestEncodeAllShortTexts(t *testing.T) {
	letters := []byte{144, 'a', 0}
	for n, texts := 0, 1; n <= 8; n, texts = n+1, texts*3 {
		for x := range texts {
			b := make([]byte, n)
			for i := range b {
				b[i] = letters[x%3]
				x /= 3
			}
			hold(t, b)
		}
	}
}

// P13.4, P13.5
func TestEncodeThrownTexts(t *testing.T) {
	var d dice = 133
	for range 60 {
		hold(t, d.bytes(d.below(3000), 1+d.below(256)))
		hold(t, d.pick(d.below(3000), []byte{143, 144, 145}))
		hold(t, d.pieces(d.below(9000)))
	}
	for n := range 300 {
		hold(t, bytes.Repeat([]byte{144}, n))
	}
}

// pieces is a text of which much comes again.
func (d *dice) pieces(n int) []byte {
	var b []byte
	for len(b) < n {
		if len(b) == 0 || d.below(3) == 0 {
			b = append(b, d.bytes(1+d.below(9), 256)...)
			continue
		}
		from := len(b) - 1 - d.below(min(len(b), 5000))
		for range 1 + d.below(400) {
			b = append(b, b[from])
			from++
		}
	}
	return b
}

// P13.5: the bound is reached, and not more.
func TestTwiceAsMany(t *testing.T) {
	b := []byte{144, 144, 144, 144}
	if out := mustEncode(t, b, 1); len(out) != 8 {
		t.Error(out)
	}
}

// R3
func TestEncodedIsNewMemory(t *testing.T) {
	b := []byte("no copies")
	out := mustEncode(t, b, 3)
	out[0] = 'x'
	_ = append(out[:2], 'y')
	if string(b) != "no copies" {
		t.Error(b)
	}
}

// P13.4: a great text takes no long time.
func TestGreatText(t *testing.T) {
	var d dice = 134
	hold(t, make([]byte, 1<<19))
	hold(t, d.pieces(1<<17))
}
