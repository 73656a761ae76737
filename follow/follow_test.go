package follow

import (
	"bytes"
	"math"
	"slices"
	"strconv"
	"strings"
	"testing"

	"duffel/api"
	"duffel/bitio"
)

// dice is a row of numbers that look thrown, and are the same in every run.
type dice uint64

func (d *dice) below(n int) int {
	*d = *d*6364136223846793005 + 1442695040888963407
	return int(uint64(*d)>>33) % n
}

func (d *dice) bytes(n, kinds int) []byte {
	b := make([]byte, n)
	for i := range b {
		b[i] = byte(d.below(kinds))
	}
	return b
}

// sets are thrown ones: of each byte from least to most followers, in any order; a byte may come twice.
func (d *dice) sets(least, most int) Sets {
	var s Sets
	for last := range s {
		s[last] = d.bytes(least+d.below(most-least+1), 256)
	}
	return s
}

// spell answers a number's bits as a text of noughts and ones, the lowest bit first.
func spell(x, n int) string {
	text := ""
	for i := range n {
		text += strconv.Itoa(x >> i & 1)
	}
	return text
}

// spelt are all bits that were written.
func spelt(w *bitio.Writer) string {
	var text strings.Builder
	for _, c := range w.Bytes() {
		text.WriteString(spell(int(c), 8))
	}
	return text.String()[:w.Len()]
}

// written answers a writer of bits that are spelt.
func written(text string) *bitio.Writer {
	w := bitio.New()
	for _, bit := range text {
		w.Put(uint32(bit-'0'), 1)
	}
	return w
}

// widthPlainly goes by the words of P12.1.
func widthPlainly(n int) int {
	if n < 1 || n > 32 {
		return 0
	}
	k := 1
	for math.Pow(2, float64(k)) < float64(n) {
		k++
	}
	return k
}

// firstOnes are the followers that count.
func firstOnes(followers []byte) []byte {
	if len(followers) > 32 {
		return followers[:32]
	}
	return followers
}

// bytePlainly spells a byte behind another one by the words of P12.2.
func bytePlainly(s Sets, last, c byte) string {
	followers := firstOnes(s[last])
	if len(followers) == 0 {
		return spell(int(c), 8)
	}
	for place, f := range followers {
		if f == c {
			return "0" + spell(place, widthPlainly(len(followers)))
		}
	}
	return "1" + spell(int(c), 8)
}

// setsPlainly spells sets by the words of P12.3.
func setsPlainly(s Sets) string {
	var text strings.Builder
	for last := 255; last >= 0; last-- {
		followers := firstOnes(s[last])
		text.WriteString(spell(len(followers), 6))
		for _, f := range followers {
			text.WriteString(spell(int(f), 8))
		}
	}
	return text.String()
}

func same(a, b Sets) bool {
	for last := range a {
		if !bytes.Equal(a[last], b[last]) {
			return false
		}
	}
	return true
}

func clone(s Sets) Sets {
	for last := range s {
		s[last] = slices.Clone(s[last])
	}
	return s
}

func none(s Sets) bool { return same(s, Sets{}) }

func TestWidth(t *testing.T) { // P12.1
	for n, want := range map[int]int{1: 1, 2: 1, 3: 2, 4: 2, 5: 3, 8: 3, 9: 4, 16: 4, 17: 5, 31: 5, 32: 5} {
		if k := Width(n); k != want {
			t.Errorf("Width(%d): %d, want %d", n, k, want)
		}
	}
	for n := -70; n < 600; n++ {
		if k := Width(n); k != widthPlainly(n) {
			t.Errorf("Width(%d): %d, want %d", n, k, widthPlainly(n))
		}
	}
	for _, n := range []int{math.MinInt, math.MinInt + 1, math.MaxInt, math.MaxInt32, math.MinInt32, 1<<32 + 5, -1 << 32} {
		if k := Width(n); k != 0 {
			t.Errorf("Width(%d): %d", n, k)
		}
	}
}

// wantPut asks for the bits of a byte behind another one, ahead of which some bits stand.
func wantPut(t *testing.T, s Sets, last, c byte, want string) {
	t.Helper()
	for _, ahead := range []string{"", "1", "0110101"} {
		w := written(ahead)
		Put(w, s, last, c)
		if got := spelt(w); got != ahead+want {
			t.Fatalf("%q behind %q of %d followers: %s, want %s", c, last, len(s[last]), got, ahead+want)
		}
	}
}

func TestPut(t *testing.T) { // P12.2
	var s Sets
	s['a'] = []byte("bca")
	s['b'] = []byte("b")
	s['c'] = []byte("abcde")
	for _, x := range []struct {
		last, c byte
		want    string
	}{
		{'z', 'y', "10011110"}, // no followers: eight bits
		{'z', 0, "00000000"},
		{0, 'a', "10000110"},
		{'a', 'b', "000"}, // places of two bits, the lowest first
		{'a', 'c', "010"},
		{'a', 'a', "001"},
		{'a', 'x', "100011110"},
		{'b', 'b', "00"}, // a place of one bit, though there is but one follower
		{'b', 'a', "110000110"},
		{'c', 'b', "0100"}, // places of three bits
		{'c', 'e', "0001"},
		{'c', 255, "111111111"},
	} {
		wantPut(t, s, x.last, x.c, x.want)
	}
}

func TestPutOfTheFirstPlace(t *testing.T) { // P12.2
	var s Sets
	s[7] = []byte("aabab")
	wantPut(t, s, 7, 'a', "0000")
	wantPut(t, s, 7, 'b', "0010")
}

func TestPutOfMoreThanCount(t *testing.T) { // P12.2
	var s Sets
	for n := 30; n < 70; n++ {
		for c := range n {
			s[9] = append(s[9][:c:c], byte(c))
		}
		for c := range n {
			if c < min(n, 32) {
				wantPut(t, s, 9, byte(c), "0"+spell(c, 5))
			} else {
				wantPut(t, s, 9, byte(c), "1"+spell(c, 8))
			}
		}
	}
	s[9] = append(bytes.Repeat([]byte("a"), 40), 'b')
	wantPut(t, s, 9, 'a', "000000")
	wantPut(t, s, 9, 'b', "101000110")
}

func TestPutOfAnySets(t *testing.T) { // P12.2
	d := dice(1)
	for n := range 35 {
		s := d.sets(n, n)
		for last := range 256 {
			for _, c := range append(d.bytes(4, 256), s[last]...) {
				wantPut(t, s, byte(last), c, bytePlainly(s, byte(last), c))
			}
		}
	}
}

// wantGet asks for a byte, and for how many bits are read.
func wantGet(t *testing.T, r *bitio.Reader, s Sets, last, c byte, e api.Errno, read int) {
	t.Helper()
	was := r.Read()
	got, err := Get(r, s, last)
	if got != c || err != e || r.Read() != was+read {
		t.Fatalf("behind %q of %d followers: %q, %v, %d bits; want %q, %v, %d", last, len(s[last]), got, err, r.Read()-was, c, e, read)
	}
}

func TestGet(t *testing.T) { // P12.2
	var s Sets
	s['a'] = []byte("bca")
	r := bitio.Open(written("10011110" + "010" + "100011110" + "101000110" + "011").Bytes())
	wantGet(t, r, s, 'z', 'y', api.OK, 8)
	wantGet(t, r, s, 'a', 'c', api.OK, 3)
	wantGet(t, r, s, 'a', 'x', api.OK, 9)
	wantGet(t, r, s, 'a', 'b', api.OK, 9) // a follower may stand as it is, too
	wantGet(t, r, s, 'a', 0, api.ErrCode, 3)
	if r.Err() != api.OK {
		t.Error("the reader's error:", r.Err())
	}
}

func TestGetOfAllPlaces(t *testing.T) { // P12.2
	for n := 1; n <= 40; n++ {
		var s Sets
		for c := range n {
			s[3] = append(s[3], byte(200-c))
		}
		k := widthPlainly(min(n, 32))
		for place := range 1 << k {
			r := bitio.Open(written("0" + spell(place, k) + "1101001").Bytes())
			if place < n {
				wantGet(t, r, s, 3, byte(200-place), api.OK, 1+k)
			} else {
				wantGet(t, r, s, 3, 0, api.ErrCode, 1+k)
			}
			if r.Err() != api.OK || r.Bits(7) != 0b1001011 {
				t.Fatal(n, place, "what stands behind is not read as it was", r.Err())
			}
		}
	}
}

func TestGetOfFollowersThatComeTwice(t *testing.T) { // P12.2
	var s Sets
	s[0] = []byte("aab")
	r := bitio.Open(written("010" + "001").Bytes())
	wantGet(t, r, s, 0, 'a', api.OK, 3)
	wantGet(t, r, s, 0, 'b', api.OK, 3)
}

func TestGetAtTheEnd(t *testing.T) { // P12.2
	d := dice(2)
	for n := range 34 {
		s := d.sets(n, n)
		for left := range 9 {
			for _, first := range []uint32{0, 1} {
				b := []byte{0, byte(first) << (8 - left)}
				r := bitio.Open(b)
				r.Bits(16 - left)
				if left == 0 {
					r = bitio.Open(nil)
				}
				need := 8
				if n > 0 {
					need = 9
					if first == 0 || left == 0 {
						need = 1 + widthPlainly(min(n, 32))
					}
				}
				if left >= need {
					continue
				}
				if c, e := Get(r, s, 77); c != 0 || e != api.ErrShort || r.Err() != api.ErrShort {
					t.Fatalf("%d bits of %d: %q, %v, the reader's %v", left, need, c, e, r.Err())
				}
				if c, e := Get(r, s, 78); c != 0 || e != api.ErrShort {
					t.Fatalf("behind the end: %q, %v", c, e)
				}
			}
		}
	}
}

// spoilt are readers with errors, whatever their bytes are.
func spoilt() map[api.Errno][]*bitio.Reader {
	wrong := func() *bitio.Reader { return bitio.Open(bytes.Repeat([]byte{0xff}, 9000)) }
	arg, form, short := wrong(), wrong(), wrong()
	arg.Bits(33)
	form.Bits(1)
	form.Bytes(1)
	short.Bytes(9001)
	return map[api.Errno][]*bitio.Reader{
		api.ErrNil:   {nil, {}, new(bitio.Reader)},
		api.ErrArg:   {arg},
		api.ErrForm:  {form},
		api.ErrShort: {short, bitio.Open(nil)},
	}
}

func TestGetOfAReaderWithAnError(t *testing.T) { // P12.2, R1, R2
	d := dice(3)
	for n := range 35 {
		s := d.sets(n, n)
		for want, readers := range spoilt() {
			for _, r := range readers {
				if c, e := Get(r, s, 5); c != 0 || e != want {
					t.Errorf("%d followers: %q, %v, want %v", n, c, e, want)
				}
			}
		}
	}
}

func TestWhatIsPutIsGot(t *testing.T) { // P12.2, P12.5
	d := dice(4)
	for _, bound := range [][2]int{{0, 0}, {0, 3}, {1, 1}, {2, 5}, {0, 32}, {32, 32}, {30, 50}} {
		for _, kinds := range []int{2, 20, 256} {
			s := d.sets(bound[0], bound[1])
			text := d.bytes(3000, kinds)
			w := bitio.New()
			want := ""
			last := byte(0)
			for _, c := range text {
				Put(w, s, last, c)
				want += bytePlainly(s, last, c)
				last = c
			}
			if spelt(w) != want {
				t.Fatal("not the bits that were wanted")
			}
			r := bitio.Open(w.Bytes())
			last = 0
			for _, c := range text {
				wantGet(t, r, s, last, c, api.OK, len(bytePlainly(s, last, c)))
				last = c
			}
			if r.Read() != w.Len() {
				t.Fatal(r.Read(), w.Len())
			}
		}
	}
}

func TestPutOfNoWriter(t *testing.T) { // R1
	s := Sets{1: []byte("ab")}
	for _, last := range []byte{0, 1} {
		Put(nil, s, last, 'a')
		Put(nil, s, last, 'x')
	}
	PutSets(nil, s)
	var w bitio.Writer
	Put(&w, s, 1, 'b')
	if spelt(&w) != "01" {
		t.Error(spelt(&w))
	}
}

// wantPutSets asks for the bits of sets, and that they are read.
func wantPutSets(t *testing.T, s Sets) {
	t.Helper()
	for _, ahead := range []string{"", "011"} {
		w := written(ahead)
		PutSets(w, s)
		if spelt(w) != ahead+setsPlainly(s) {
			t.Fatal("not the bits that were wanted")
		}
		w.Put(0b10110, 5)
		r := bitio.Open(w.Bytes())
		r.Bits(len(ahead))
		got, e := GetSets(r)
		want := s
		for last := range want {
			want[last] = firstOnes(want[last])
		}
		if e != api.OK || !same(got, want) || r.Read() != w.Len()-5 || r.Bits(5) != 0b10110 {
			t.Fatal("what is written isn't read as it was:", e, r.Read(), w.Len())
		}
	}
}

func TestSetsFromTheLastByteOn(t *testing.T) { // P12.3
	s := Sets{255: []byte("ba"), 254: {7}, 0: {1, 0, 1}}
	w := bitio.New()
	PutSets(w, s)
	want := "010000" + "01000110" + "10000110" + "100000" + "11100000" +
		strings.Repeat("000000", 253) + "110000" + "10000000" + "00000000" + "10000000"
	if got := spelt(w); got != want {
		t.Errorf("%s, want %s", got, want)
	}
	wantPutSets(t, s)
	wantPutSets(t, Sets{})
}

func TestSetsOfAnySizes(t *testing.T) { // P12.3, P12.5
	d := dice(5)
	for n := range 80 {
		wantPutSets(t, d.sets(n, n))
		wantPutSets(t, d.sets(0, n))
		var s Sets
		s[d.below(256)] = d.bytes(n, 256)
		wantPutSets(t, s)
	}
	for last := range 256 {
		var s Sets
		s[last] = []byte{byte(last), 9, 9}
		wantPutSets(t, s)
	}
	wantPutSets(t, d.sets(256, 300))
}

func TestGetSetsOfMoreThanMayBe(t *testing.T) { // P12.3
	d := dice(6)
	for n := 33; n < 64; n++ {
		for _, ahead := range []int{0, 1, 2, 100, 254, 255} { // so many sets stand ahead of it
			s := d.sets(0, 32)
			for last := range 256 - ahead {
				s[last] = nil
			}
			text := strings.TrimSuffix(setsPlainly(s), strings.Repeat("0", 6*(256-ahead)))
			for _, behind := range []string{"", strings.Repeat("1", 8*64*256)} { // the bits may end there
				r := bitio.Open(written(text + spell(n, 6) + behind).Bytes())
				got, e := GetSets(r)
				if !none(got) || e != api.ErrForm || r.Err() != api.OK || r.Read() != len(text)+6 {
					t.Fatalf("%d followers, %d ahead: %v, the reader's %v, %d bits read of %d", n, ahead, e, r.Err(), r.Read(), len(text)+6)
				}
			}
		}
	}
}

func TestGetSetsAtTheEnd(t *testing.T) { // P12.3
	d := dice(7)
	for _, s := range []Sets{{}, {0: {1}}, {255: d.bytes(32, 256)}, d.sets(0, 2), d.sets(0, 32), d.sets(32, 32)} {
		text := setsPlainly(s)
		for left := 0; left < len(text); left += 1 + len(text)/500 {
			r := bitio.Open(written(strings.Repeat("1", 7-(left+7)%8) + text[:left]).Bytes())
			r.Bits(r.Left() - left)
			if got, e := GetSets(r); !none(got) || e != api.ErrShort || r.Err() != api.ErrShort {
				t.Fatal(left, "bits of", len(text), e, r.Err())
			}
		}
		r := bitio.Open(written(text).Bytes()[:len(text)/8])
		if got, e := GetSets(r); (e == api.OK) != (len(text)%8 == 0) || e == api.OK && !same(got, s) {
			t.Fatal(e)
		}
	}
}

func TestGetSetsOfAReaderWithAnError(t *testing.T) { // P12.3, R1, R2
	for want, readers := range spoilt() {
		for _, r := range readers {
			if got, e := GetSets(r); !none(got) || e != want {
				t.Error(e, want)
			}
		}
	}
}

func TestGetSetsOfAnyBits(t *testing.T) { // P12.3, R1
	d := dice(8)
	right := 0
	for range 3000 {
		b := d.bytes(d.below(9000), 256)
		if d.below(2) == 0 {
			// Bits that are noughts, most of them, so that no set is too great.
			for i := range b {
				b[i] &= byte(d.below(256) & d.below(256) & d.below(256) & d.below(256))
			}
		}
		r := bitio.Open(b)
		s, e := GetSets(r)
		switch e {
		case api.OK:
			right++
			w := bitio.New()
			PutSets(w, s)
			if r.Read() != w.Len() || !bytes.HasPrefix(b, w.Bytes()[:w.Len()/8]) {
				t.Fatal("what was read isn't written as it was")
			}
		case api.ErrForm, api.ErrShort:
			if !none(s) {
				t.Fatal("sets beside an error")
			}
		default:
			t.Fatal(e)
		}
	}
	if right < 100 {
		t.Error("few were right:", right)
	}
}

// cost answers how many bits a byte's followers have, and all that stands behind it.
func cost(followers []byte, last byte, behind []byte) int {
	s := Sets{}
	s[last] = followers
	n := 8 * len(followers)
	for _, c := range behind {
		n += len(bytePlainly(s, last, c))
	}
	return n
}

// bestPlainly goes by the words of P12.4.
func bestPlainly(b []byte) Sets {
	var behind [256][]byte
	for i, c := range append([]byte{0}, b...) {
		if i < len(b) {
			behind[c] = append(behind[c], b[i])
		}
	}
	var s Sets
	for last, l := range behind {
		last := byte(last)
		var order []byte
		for c := range 256 {
			if bytes.IndexByte(l, byte(c)) >= 0 {
				order = append(order, byte(c))
			}
		}
		slices.SortStableFunc(order, func(x, y byte) int { return bytes.Count(l, []byte{y}) - bytes.Count(l, []byte{x}) })
		fewest := cost(nil, last, l)
		for n := range min(len(order), 32) + 1 {
			if bits := cost(order[:n], last, l); bits < fewest {
				s[last], fewest = order[:n], bits
			}
		}
	}
	return s
}

// wantBest asks for the best sets, and that a text is no longer by them, and is read as it was (P12.5).
func wantBest(t *testing.T, text []byte) Sets {
	t.Helper()
	was := slices.Clone(text)
	s := Best(text)
	if !bytes.Equal(text, was) {
		t.Fatalf("%.40q was changed", was)
	}
	if want := bestPlainly(text); !same(s, want) {
		for last := range want {
			if !bytes.Equal(s[last], want[last]) {
				t.Fatalf("%.40q (%d bytes): behind %d %q, want %q", text, len(text), last, s[last], want[last])
			}
		}
	}
	wantShort(t, s, text)
	return s
}

// wantShort asks for what P12.5 says of the best sets of a text.
func wantShort(t *testing.T, s Sets, text []byte) {
	t.Helper()
	w := bitio.New()
	PutSets(w, s)
	last := byte(0)
	for _, c := range text {
		Put(w, s, last, c)
		last = c
	}
	if w.Len() > 6*256+8*len(text) {
		t.Fatalf("%.40q (%d bytes): %d bits", text, len(text), w.Len())
	}
	wantRead(t, w, text)
}

// wantRead reads sets, and a text by them.
func wantRead(t *testing.T, w *bitio.Writer, text []byte) {
	t.Helper()
	r := bitio.Open(w.Bytes())
	s, e := GetSets(r)
	last := byte(0)
	for i, want := range text {
		if last, e = Get(r, s, last); last != want || e != api.OK {
			t.Fatalf("%.40q: byte %d is %q, %v", text, i, last, e)
		}
	}
	if r.Read() != w.Len() {
		t.Fatalf("%.40q: %d bits read of %d", text, r.Read(), w.Len())
	}
}

func TestBest(t *testing.T) { // P12.4
	for _, x := range []struct {
		text string
		want Sets
	}{
		{"", Sets{}},
		{"a", Sets{}},                   // behind 0 a once: 8 bits, or 10
		{"aa", Sets{}},                  // and behind a
		{"aaa", Sets{'a': []byte("a")}}, // twice behind a: 16 bits, or 12
		{"aaaa", Sets{'a': []byte("a")}},
		{"\x00", Sets{}},
		{"\x00\x00", Sets{0: {0}}},
		{"abababab", Sets{'a': []byte("b"), 'b': []byte("a")}},
		{"abacabac", Sets{'a': []byte("bc"), 'b': []byte("a")}}, // behind a b and c twice each: 32 bits, 30 by one, 24 by both
	} {
		if s := wantBest(t, []byte(x.text)); !same(s, x.want) {
			t.Errorf("%q: %q, want %q", x.text, s, x.want)
		}
	}
}

// behindZero answers a text in which bytes stand behind a byte 0 as often as is said, each behind one of its own.
func behindZero(often ...int) []byte {
	var text []byte
	for i, n := range often {
		for range n {
			text = append(text, byte(i+1), 0)
		}
	}
	return text
}

func TestBestOrder(t *testing.T) { // P12.4
	for _, x := range []struct {
		often []int
		want  []byte
	}{
		{[]int{9, 9, 9}, []byte{1, 2, 3}}, // of equally many the lesser first
		{[]int{8, 9, 9}, []byte{2, 3, 1}}, // those that come more often first
		{[]int{7, 8, 9}, []byte{3, 2, 1}},
		{[]int{9, 0, 9, 20, 9}, []byte{4, 1, 3, 5}},
		{[]int{2}, []byte{1}},
		{[]int{1}, nil},
		{[]int{2, 1, 1, 1, 1}, nil},                         // 48 bits either way: the lesser number
		{[]int{3, 1, 1, 1, 1}, []byte{1}},                   // 56 bits, or 50
		{[]int{2, 2, 2, 2, 2, 1, 1, 1}, []byte{1, 2, 3, 4}}, // 104 bits by none, 101 by four
	} {
		s := wantBest(t, behindZero(x.often...))
		if !bytes.Equal(s[0], x.want) {
			t.Errorf("%v: %v, want %v", x.often, s[0], x.want)
		}
	}
}

func TestBestOfEachNumber(t *testing.T) { // P12.1, P12.4
	for n := range 40 {
		s := wantBest(t, behindZero(slices.Repeat([]int{100}, n)...))
		want := min(n, 32)
		switch {
		case 8 < n && n <= 10: // a wider place for all costs more than the ninth and tenth as they are
			want = 8
		case 16 < n && n <= 21:
			want = 16
		}
		if len(s[0]) != want {
			t.Errorf("%d bytes: %d followers, want %d", n, len(s[0]), want)
		}
		for i, c := range s[0] {
			if int(c) != i+1 {
				t.Errorf("%d bytes: follower %d is %d", n, i, c)
			}
		}
	}
}

func TestBestOfTheFirstByte(t *testing.T) { // P12.4
	// Behind 0: a, as it is first, and a once more.
	if s := wantBest(t, []byte("a\x00a")); string(s[0]) != "a" {
		t.Errorf("%q", s[0])
	}
	if s := wantBest(t, []byte("ab\x00a")); string(s[0]) != "a" {
		t.Errorf("%q", s[0])
	}
	if s := wantBest(t, []byte("b\x00a")); len(s[0]) != 0 {
		t.Errorf("%q", s[0])
	}
	// The last byte has nothing behind it.
	if s := wantBest(t, []byte("abab")); len(s['b']) != 0 || string(s['a']) != "b" {
		t.Errorf("%q", s)
	}
}

func TestBestOfAllShortTexts(t *testing.T) { // P12.4, P12.5
	letters := []byte{0, 'a', 255}
	many := 1
	for n := range 8 {
		for number := range many {
			text := make([]byte, n)
			for i := range text {
				text[i] = letters[number%len(letters)]
				number /= len(letters)
			}
			wantBest(t, text)
		}
		many *= len(letters)
	}
}

func TestBestOfThrownTexts(t *testing.T) { // P12.4, P12.5
	d := dice(9)
	for _, kinds := range []int{1, 2, 3, 5, 8, 17, 33, 70, 256} {
		for _, n := range []int{10, 50, 300, 2000, 12000} {
			wantBest(t, d.bytes(n, kinds))
			// Bytes of which the lesser ones come more often.
			text := d.bytes(n, kinds)
			for i := range text {
				text[i] = byte(d.below(int(text[i]) + 1))
			}
			wantBest(t, text)
		}
	}
}

func TestBestOfAnyNumber(t *testing.T) { // P12.4, P12.5
	// Behind 0 stand bytes by thrown numbers, so that any number of followers may be best, and several alike.
	d := dice(10)
	met := map[int]bool{}
	for range 1000 {
		often := make([]int, 1+d.below(45))
		greatest := 1 + d.below(12)
		for i := range often {
			often[i] = d.below(1 + d.below(greatest+1))
		}
		met[len(wantBest(t, behindZero(often...))[0])] = true
	}
	if len(met) < 8 {
		t.Error("few numbers were best:", met)
	}
}

func TestBestOfALongText(t *testing.T) { // P12.4, P12.5
	text := bytes.Repeat([]byte("the bytes behind which they often stand, "), 30000)
	s := Best(text)
	wantShort(t, s, text)
	// Behind a blank there stands a w, too; but four have places of two bits.
	for last, want := range map[byte]string{'q': "", 'w': "h", 't': "eha", ',': " ", ' ': "btos"} {
		if string(s[last]) != want {
			t.Errorf("behind %q %q, want %q", last, s[last], want)
		}
	}
	d := dice(12)
	text = d.bytes(1000000, 256)
	wantShort(t, Best(text), text)
}

func TestWhatIsHandedInIsNeitherChangedNorKept(t *testing.T) { // R3
	d := dice(11)
	s := d.sets(0, 40)
	was := clone(s)
	w := bitio.New()
	PutSets(w, s)
	for last := range 256 {
		Put(w, s, byte(last), byte(last))
		Get(bitio.Open(d.bytes(2, 256)), s, byte(last))
	}
	if !same(s, was) {
		t.Error("sets that were handed in are changed")
	}
	b := []byte("abababab")
	best := Best(b)
	copy(b, "xxxxxxxx")
	if string(best['a']) != "b" || string(best['b']) != "a" {
		t.Errorf("%q", best)
	}
}

func TestAnswersAreNewMemory(t *testing.T) { // R3, R4
	text := bytes.Repeat([]byte("abcabdabe"), 20)
	w := bitio.New()
	PutSets(w, Best(text))
	fromBits := func() Sets {
		s, _ := GetSets(bitio.Open(w.Bytes()))
		return s
	}
	for _, make := range []func() Sets{func() Sets { return Best(text) }, fromBits} {
		one, two := make(), make()
		want := clone(two)
		for last := range one {
			for i := range one[last] {
				one[last][i]++
			}
			one[last] = append(one[last], 'x', 'y') // into what may lie behind it
		}
		if !same(two, want) || !same(make(), want) {
			t.Error("answers share memory")
		}
		for last := range one {
			if len(one[last]) != len(want[last])+2 {
				t.Error("lists of one answer share memory")
			}
			for i, c := range want[last] {
				if one[last][i] != c+1 {
					t.Error("lists of one answer share memory")
				}
			}
		}
	}
}
