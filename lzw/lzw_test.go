package lzw

import (
	"bytes"
	"math"
	"slices"
	"strings"
	"testing"

	"duffel/api"
)

// dice is a row of numbers that look thrown, and are the same in every run.
type dice uint64

func (d *dice) below(n int) int {
	*d = *d*6364136223846793005 + 1442695040888963407
	return int(uint64(*d)>>33) % n
}

// plain is a table as the chapter has it, without a map by links: all codes are gone through.
type plain struct {
	links map[int]api.Link
	last  int // the code that was given out last; 256, if none was
}

func newPlain() *plain { return &plain{links: map[int]api.Link{}, last: 256} }

func (p *plain) next() int {
	for code := p.last + 1; code <= 8191; code++ {
		if _, ok := p.links[code]; !ok {
			return code
		}
	}
	return -1
}

func (p *plain) add(parent int, c byte) int {
	code := p.next()
	if code == -1 || parent < 0 || parent > 8191 || parent == 256 {
		return -1
	}
	p.links[code] = api.Link{Parent: parent, Byte: c}
	p.last = code
	return code
}

func (p *plain) clear() {
	parents := map[int]bool{}
	for _, l := range p.links {
		parents[l.Parent] = true
	}
	var freed []int
	for code := range p.links {
		if !parents[code] {
			freed = append(freed, code)
		}
	}
	for _, code := range freed {
		delete(p.links, code)
	}
	p.last = 256
}

func (p *plain) text(code int) ([]byte, bool) {
	seen := map[int]bool{}
	var back []byte
	for code < 0 || code > 255 {
		l, ok := p.links[code]
		if !ok || seen[code] {
			return nil, false
		}
		seen[code] = true
		back = append(back, l.Byte)
		code = l.Parent
	}
	back = append(back, byte(code))
	slices.Reverse(back)
	return back, true
}

func (p *plain) child(parent int, c byte) int {
	for code := 257; code <= 8191; code++ {
		if l, ok := p.links[code]; ok && l == (api.Link{Parent: parent, Byte: c}) {
			return code
		}
	}
	return -1
}

// call is a link that is added, or Clear.
type call struct {
	clear  bool
	parent int
	c      byte
}

func put(parent int, c byte) call { return call{parent: parent, c: c} }

var clearing = call{clear: true}

// of makes a call of both, and asks for one answer.
func (c call) of(t *testing.T, m *Table, p *plain) {
	t.Helper()
	if c.clear {
		m.Clear()
		p.clear()
		return
	}
	if n, wanted := m.Add(c.parent, c.c), p.add(c.parent, c.c); n != wanted {
		t.Fatalf("Add(%d, %d): %d, want %d", c.parent, c.c, n, wanted)
	}
}

// wantCode asks for all that is told of a code.
func wantCode(t *testing.T, m *Table, p *plain, code int) {
	t.Helper()
	b, ok := m.Text(code)
	if wanted, has := p.text(code); ok != has || !bytes.Equal(b, wanted) {
		t.Fatalf("Text(%d): %.40q (%d bytes), %v; want %.40q (%d), %v", code, b, len(b), ok, wanted, len(wanted), has)
	}
	l, ok := m.Link(code)
	if wanted, has := p.links[code]; ok != has || l != wanted {
		t.Fatalf("Link(%d): %v, %v; want %v, %v", code, l, ok, wanted, has)
	}
}

func wantChild(t *testing.T, m *Table, parent int, c byte, wanted int) {
	t.Helper()
	if n := m.Child(parent, c); n != wanted {
		t.Fatalf("Child(%d, %d): %d, want %d", parent, c, n, wanted)
	}
}

func wantNextUsed(t *testing.T, m *Table, next, used int) {
	t.Helper()
	if m.Next() != next || m.Used() != used {
		t.Fatalf("Next: %d, Used: %d; want %d, %d", m.Next(), m.Used(), next, used)
	}
}

func wantText(t *testing.T, m *Table, code int, wanted string) {
	t.Helper()
	if b, ok := m.Text(code); !ok || string(b) != wanted {
		t.Fatalf("Text(%d): %.40q (%d bytes), %v; want %.40q (%d bytes)", code, b, len(b), ok, wanted, len(wanted))
	}
}

func wantNoText(t *testing.T, m *Table, code int) {
	t.Helper()
	if b, ok := m.Text(code); ok || len(b) != 0 {
		t.Fatalf("Text(%d): %.40q, %v; want none", code, b, ok)
	}
}

func wantLink(t *testing.T, m *Table, code int, wanted api.Link) {
	t.Helper()
	if l, ok := m.Link(code); !ok || l != wanted {
		t.Fatalf("Link(%d): %v, %v; want %v", code, l, ok, wanted)
	}
}

func wantNoLink(t *testing.T, m *Table, code int) {
	t.Helper()
	if l, ok := m.Link(code); ok || l != (api.Link{}) {
		t.Fatalf("Link(%d): %v, %v; want none", code, l, ok)
	}
}

// add adds a link, and asks for its code.
func add(t *testing.T, m *Table, parent int, c byte, wanted int) {
	t.Helper()
	if n := m.Add(parent, c); n != wanted {
		t.Fatalf("Add(%d, %d): %d, want %d", parent, c, n, wanted)
	}
}

// wantAll asks for all that is told of a table.
func wantAll(t *testing.T, m *Table, p *plain) {
	t.Helper()
	wantNextUsed(t, m, p.next(), len(p.links))
	for code := -2; code < 8195; code++ {
		wantCode(t, m, p, code)
	}
	children := map[api.Link]int{}
	for code := 8191; code > 256; code-- {
		if l, ok := p.links[code]; ok {
			children[l] = code
		}
	}
	for l, code := range children {
		wantChild(t, m, l.Parent, l.Byte, code)
	}
}

// numbers that are no codes, or that have no string in a new table.
var odd = []int{256, -1, -2, -256, -257, -8192, 8192, 8193, 16384, 65536 + 257, 1 << 32, 1<<32 + 97, 1<<32 + 257, math.MaxInt, math.MinInt, math.MinInt + 97}

func TestANewTable(t *testing.T) { // P10.1, P10.2, P10.4
	m := New()
	wantNextUsed(t, m, 257, 0)
	for code := range 256 {
		wantText(t, m, code, string([]byte{byte(code)}))
		wantNoLink(t, m, code)
		wantChild(t, m, code, byte(code), -1)
		wantChild(t, m, code, 0, -1)
	}
	for code := 256; code < 8192; code++ {
		wantNoText(t, m, code)
		wantNoLink(t, m, code)
		wantChild(t, m, code, 0, -1)
	}
	for _, code := range odd {
		wantNoText(t, m, code)
		wantNoLink(t, m, code)
		wantChild(t, m, code, 0, -1)
	}
	wantNextUsed(t, m, 257, 0)
}

func TestTheExample(t *testing.T) { // P10.1 to P10.4
	m := New()
	add(t, m, 97, 98, 257)
	wantText(t, m, 257, "ab")
	wantLink(t, m, 257, api.Link{Parent: 97, Byte: 98})
	add(t, m, 257, 99, 258)
	wantText(t, m, 258, "abc")
	wantLink(t, m, 258, api.Link{Parent: 257, Byte: 99})
	wantNextUsed(t, m, 259, 2)
	m.Clear()
	wantNoText(t, m, 258)
	wantNoLink(t, m, 258)
	wantText(t, m, 257, "ab")
	wantNextUsed(t, m, 258, 1)
	add(t, m, 97, 120, 258)
	wantText(t, m, 258, "ax")
	wantNextUsed(t, m, 259, 2)
}

func TestEveryByteIsAParentAndBehindOne(t *testing.T) { // P10.1, P10.2, P10.4
	m := New()
	for n := range 256 {
		parent, c := byte(n), byte(255-n)
		add(t, m, int(parent), c, 257+n)
		wantText(t, m, 257+n, string([]byte{parent, c}))
		wantLink(t, m, 257+n, api.Link{Parent: n, Byte: c})
		wantChild(t, m, n, c, 257+n)
		wantChild(t, m, n, c+1, -1)
	}
}

func TestAddOfAWrongParent(t *testing.T) { // P10.2
	m := New()
	for _, full := range []bool{false, true} {
		next, used := m.Next(), m.Used()
		for _, parent := range odd {
			add(t, m, parent, 'x', -1)
			wantNextUsed(t, m, next, used)
			wantChild(t, m, parent, 'x', -1)
			wantNoText(t, m, next)
		}
		if !full {
			add(t, m, 'a', 'b', 257)
			fill(t, m, 257)
		}
	}
	m = New()
	for i, parent := range []int{0, 255, 257, 258, 8190, 8191} { // the edges of what may be one
		add(t, m, parent, 'x', 257+i)
		wantLink(t, m, 257+i, api.Link{Parent: parent, Byte: 'x'})
		wantChild(t, m, parent, 'x', 257+i)
	}
}

// fill gives out all codes from Next on, each of which has one parent.
func fill(t *testing.T, m *Table, parent int) {
	t.Helper()
	for m.Next() != -1 {
		add(t, m, parent, 'x', m.Next())
	}
}

func TestAFullTable(t *testing.T) { // P10.2, P10.3
	m := New()
	for code := 257; code < 8192; code++ {
		wantNextUsed(t, m, code, code-257)
		add(t, m, code%256, byte(code>>8), code)
	}
	wantNextUsed(t, m, -1, 7935)
	add(t, m, 'a', 'b', -1)
	add(t, m, 256, 'b', -1)
	wantNextUsed(t, m, -1, 7935)
	wantText(t, m, 8191, "\xff\x1f")
	wantNoLink(t, m, -1)
	m.Clear() // all are nobody's parent
	wantNextUsed(t, m, 257, 0)
	for code := 257; code < 8192; code++ {
		wantNoText(t, m, code)
		wantNoLink(t, m, code)
		wantChild(t, m, code%256, byte(code>>8), -1)
	}
	add(t, m, 'a', 'b', 257)
	wantNextUsed(t, m, 258, 1)
}

func TestTheLongestString(t *testing.T) { // P10.1, P10.3, P10.4
	m := New()
	parent, wanted := int('a'), []byte("a")
	for code := 257; code < 8192; code++ {
		add(t, m, parent, byte(code*7), code)
		parent, wanted = code, append(wanted, byte(code*7))
	}
	wantText(t, m, 8191, string(wanted))
	for code := 257; code < 8192; code += 13 {
		wantText(t, m, code, string(wanted[:code-255]))
	}
	for last := 8191; last > 257; last-- { // each Clear frees the last one alone
		m.Clear()
		if last%100 == 0 || last > 8180 || last < 270 {
			wantNextUsed(t, m, last, last-257)
			wantNoText(t, m, last)
			wantText(t, m, last-1, string(wanted[:last-256]))
			wantChild(t, m, last-1, byte(last*7), -1)
			wantChild(t, m, max(last-2, 256), byte((last-1)*7), childOfChain(last-1))
		}
	}
	m.Clear()
	wantNextUsed(t, m, 257, 0)
	m.Clear()
	wantNextUsed(t, m, 257, 0)
}

// childOfChain answers which code has the link of a chain's code: of 257 the parent is a byte, not 256.
func childOfChain(code int) int {
	if code == 257 {
		return -1
	}
	return code
}

func TestALongRoundHasNoString(t *testing.T) { // P10.1, P10.3
	for _, n := range []int{1, 2, 3, 100, 7934, 7935} {
		m, p := New(), newPlain()
		last := 256 + n
		put(last, 'x').of(t, m, p) // free as yet, unless it is this one itself
		for code := 258; code <= last; code++ {
			put(code-1, 'x').of(t, m, p)
		}
		for code := 257; code <= last; code++ {
			wantNoText(t, m, code)
		}
		if last < 8191 { // one that stands behind the round
			put(last, 'y').of(t, m, p)
			wantNoText(t, m, last+1)
			wantLink(t, m, last+1, api.Link{Parent: last, Byte: 'y'})
		}
		m.Clear()
		m.Clear()
		next := last + 1
		if next > 8191 {
			next = -1
		}
		wantNextUsed(t, m, next, n) // each one of the round is another's parent
		wantLink(t, m, 257, api.Link{Parent: last, Byte: 'x'})
		wantChild(t, m, last, 'x', 257)
		wantNoText(t, m, 257)
		add(t, m, 'a', 'b', next)
	}
}

func TestACodeThatIsItsOwnParent(t *testing.T) { // P10.1, P10.3
	m := New()
	add(t, m, 257, 'q', 257)
	wantNoText(t, m, 257)
	wantLink(t, m, 257, api.Link{Parent: 257, Byte: 'q'})
	wantChild(t, m, 257, 'q', 257)
	m.Clear()
	wantNextUsed(t, m, 258, 1)
	for code := 258; code < 8192; code++ {
		add(t, m, code, 'q', code)
		m.Clear()
	}
	wantNextUsed(t, m, -1, 7935)
	wantNoText(t, m, 8191)
}

func TestAParentThatIsFree(t *testing.T) { // P10.1 to P10.3
	m := New()
	add(t, m, 259, 'z', 257) // 259 is free
	wantNoText(t, m, 257)
	wantLink(t, m, 257, api.Link{Parent: 259, Byte: 'z'})
	wantNoLink(t, m, 259)
	add(t, m, 'a', 'b', 258)
	wantNoText(t, m, 257)
	add(t, m, 258, 'c', 259)
	wantText(t, m, 257, "abcz") // it has a string, as its parent has one now
	m.Clear()
	wantNextUsed(t, m, 257, 2) // 257 alone is nobody's parent
	wantText(t, m, 259, "abc")
	m = New()
	add(t, m, 300, 'z', 257)
	m.Clear()
	wantNextUsed(t, m, 257, 0)
	wantNoLink(t, m, 300)
}

func TestParentsOfWhatIsFreedStay(t *testing.T) { // P10.3
	m := New()
	add(t, m, 'a', 'b', 257)
	add(t, m, 257, 'c', 258)
	add(t, m, 258, 'd', 259)
	add(t, m, 'x', 'y', 260)
	add(t, m, 260, 'z', 261)
	for _, c := range []struct {
		kept []int
		next int
	}{
		{[]int{257, 258, 260}, 259},
		{[]int{257}, 258},
		{nil, 257},
		{nil, 257},
	} {
		m.Clear()
		wantNextUsed(t, m, c.next, len(c.kept))
		for code := 257; code < 262; code++ {
			if _, ok := m.Link(code); ok != slices.Contains(c.kept, code) {
				t.Error("after Clear", code, ok, "want", c.kept)
			}
		}
	}
}

func TestNextGoesOverWhatStays(t *testing.T) { // P10.2, P10.3
	m := New()
	for code := 257; code < 277; code++ { // each second one is the parent of the next one
		parent := 'a'
		if code%2 == 0 {
			parent = rune(code - 1)
		}
		add(t, m, int(parent), byte(code), code)
	}
	m.Clear()
	for code := 258; code <= 276; code += 2 {
		wantNextUsed(t, m, code, 10+(code-258)/2)
		add(t, m, 'c', byte(code), code)
		wantText(t, m, code-1, "a"+string([]byte{byte(code - 1)}))
	}
	wantNextUsed(t, m, 277, 20)
	m.Clear() // those that were parents are so no more
	wantNextUsed(t, m, 257, 0)
}

func TestNextIsAboveTheLastOne(t *testing.T) { // P10.2
	m := New()
	fill(t, m, 'a')
	m.Clear()
	for code := 257; code < 8191; code++ {
		add(t, m, 8190, 'x', code)
	}
	m.Clear() // 8190 alone stays, whose parent it is
	wantNextUsed(t, m, 257, 1)
	wantLink(t, m, 8190, api.Link{Parent: 8190, Byte: 'x'})
	for code := 257; code < 8190; code++ {
		add(t, m, 'b', 'x', code)
	}
	wantNextUsed(t, m, 8191, 7934)
	add(t, m, 'b', 'x', 8191)
	wantNextUsed(t, m, -1, 7935)
}

func TestChildIsTheLeast(t *testing.T) { // P10.4
	m := New()
	add(t, m, 'a', 'b', 257)
	add(t, m, 'a', 'b', 258)
	add(t, m, 'a', 'b', 259)
	wantChild(t, m, 'a', 'b', 257)
	wantChild(t, m, 'a', 'c', -1)
	wantChild(t, m, 'b', 'b', -1)
	add(t, m, 258, 'c', 260)
	m.Clear() // 258 alone stays
	wantNextUsed(t, m, 257, 1)
	wantChild(t, m, 'a', 'b', 258)
	wantChild(t, m, 258, 'c', -1)
	add(t, m, 'a', 'b', 257) // a lesser one, which comes later
	wantChild(t, m, 'a', 'b', 257)
	add(t, m, 'a', 'b', 259)
	wantChild(t, m, 'a', 'b', 257)
	wantText(t, m, 258, "ab")
	m.Clear()
	wantChild(t, m, 'a', 'b', -1)
}

func TestTheLeastChildThoughNobodyAskedAhead(t *testing.T) { // P10.4
	m := New()
	add(t, m, 'x', 'y', 257)
	add(t, m, 'a', 'b', 258)
	add(t, m, 258, 'c', 259)
	m.Clear()
	add(t, m, 'a', 'b', 257)
	wantChild(t, m, 'a', 'b', 257)
	wantChild(t, m, 'x', 'y', -1)
}

func TestChildOfWhatHasNoString(t *testing.T) { // P10.4
	m := New()
	add(t, m, 5000, 'q', 257)
	wantChild(t, m, 5000, 'q', 257)
	wantChild(t, m, 5000, 'r', -1)
	wantNoText(t, m, 257)
	wantNoText(t, m, 5000)
}

func TestTablesThatNewDidNotMake(t *testing.T) { // P10.4
	var zero Table
	for _, m := range []*Table{nil, &zero} {
		for range 2 {
			wantNextUsed(t, m, -1, 0)
			for _, code := range append([]int{0, 97, 255, 257, 258, 8191}, odd...) {
				add(t, m, code, 'x', -1)
				wantNoText(t, m, code)
				wantNoLink(t, m, code)
				wantChild(t, m, code, 'x', -1)
			}
			m.Clear()
		}
	}
}

func TestWhatIsToldIsNewMemory(t *testing.T) { // P10.4, R3
	m, other := New(), New()
	add(t, m, 'a', 'b', 257)
	add(t, m, 257, 'c', 258)
	for _, code := range []int{'a', 257, 258} {
		b, _ := m.Text(code)
		wanted := string(b)
		clear(b[:cap(b)])
		wantText(t, m, code, wanted)
	}
	b, _ := m.Text(258)
	m.Clear()
	add(t, m, 'x', 'y', 258)
	if string(b) != "abc" {
		t.Error(b)
	}
	wantNextUsed(t, other, 257, 0)
	wantNoText(t, other, 257)
	wantChild(t, other, 'a', 'b', -1)
}

// rows goes through all rows of n calls.
func rows(n int, calls []call, do func(row []call)) {
	row := make([]call, n)
	var fill func(at int)
	fill = func(at int) {
		if at == n {
			do(row)
			return
		}
		for _, row[at] = range calls {
			fill(at + 1)
		}
	}
	fill(0)
}

func TestAllShortRowsOfCalls(t *testing.T) { // P10.1 to P10.5
	calls := []call{clearing, put('a', 'x'), put('a', 'y'), put(257, 'x'), put(258, 'x'), put(258, 'y'), put(259, 'x')}
	parents := []int{'a', 'x', 256, 257, 258, 259, 260, 261}
	rows(5, calls, func(row []call) {
		m, p := New(), newPlain()
		for _, c := range row {
			c.of(t, m, p)
		}
		for range 2 { // Clear at the end lays bare what else is known
			wantNextUsed(t, m, p.next(), len(p.links))
			for code := 255; code < 263; code++ {
				wantCode(t, m, p, code)
			}
			for _, parent := range parents {
				wantChild(t, m, parent, 'x', shortChild(p, parent, 'x'))
				wantChild(t, m, parent, 'y', shortChild(p, parent, 'y'))
			}
			m.Clear()
			p.clear()
		}
	})
}

// shortChild is child, where no more than a few codes have links.
func shortChild(p *plain, parent int, c byte) int {
	least := -1
	for code, l := range p.links {
		if l == (api.Link{Parent: parent, Byte: c}) && (least == -1 || code < least) {
			least = code
		}
	}
	return least
}

func TestThrownRowsOfCalls(t *testing.T) { // P10.1 to P10.5
	for seed := range 24 {
		d := dice(seed)
		m, p := New(), newPlain()
		letters := 1 + d.below(4)
		often := []int{20, 300, 4000, 12000}[seed%4] // so many calls between two Clears, about
		for range 16000 {
			var c call
			switch n := d.below(often + 1); {
			case n == 0:
				c = clearing
			case seed%3 == 0:
				c = put(d.below(8200)-4, byte(d.below(letters)))
			default:
				c = put(givenOrByte(&d, p), byte(d.below(letters)))
			}
			c.of(t, m, p)
			if d.below(200) == 0 {
				parent, letter := givenOrByte(&d, p), byte(d.below(letters))
				wantChild(t, m, parent, letter, p.child(parent, letter))
				wantCode(t, m, p, d.below(8192))
			}
			if d.below(4000) == 0 {
				wantAll(t, m, p)
			}
		}
		wantAll(t, m, p)
		wantAllToBeLetGo(t, m, p)
	}
}

// givenOrByte throws a code that may well have a string.
func givenOrByte(d *dice, p *plain) int {
	if d.below(4) == 0 {
		return d.below(4)
	}
	return 257 + d.below(max(1, len(p.links)))
}

// wantAllToBeLetGo clears till nothing changes any more.
func wantAllToBeLetGo(t *testing.T, m *Table, p *plain) {
	t.Helper()
	for was := -1; was != m.Used(); {
		was = m.Used()
		clearing.of(t, m, p)
		wantNextUsed(t, m, p.next(), len(p.links))
	}
	wantAll(t, m, p)
}

// strs answers all strings of a table, by their codes.
func strs(m *Table) map[int]string {
	told := map[int]string{}
	for code := range 8192 {
		if b, ok := m.Text(code); ok {
			told[code] = string(b)
		}
	}
	return told
}

// wantToStay asks that all strings, of codes that still have links if a table was cleared, are told as they were.
func wantToStay(t *testing.T, m *Table, told map[int]string, cleared bool) {
	t.Helper()
	for code, text := range told {
		if _, ok := m.Link(code); cleared && code > 255 && !ok {
			wantNoText(t, m, code)
			continue
		}
		wantText(t, m, code, text)
	}
}

func TestStringsStayTillClear(t *testing.T) { // P10.5
	for seed := range 8 {
		d := dice(seed)
		m := New()
		for range 6 {
			for range 8 {
				told := strs(m)
				for range d.below(300) {
					parent := 257 + d.below(max(1, m.Used()))
					if d.below(3) == 0 {
						parent = d.below(8192)
					}
					m.Add(parent, byte(d.below(256)))
				}
				wantToStay(t, m, told, false)
			}
			told := strs(m)
			m.Clear()
			wantToStay(t, m, told, true)
		}
	}
}

func TestWhatIsFreedIsNobodysParent(t *testing.T) { // P10.5
	for seed := range 8 {
		d := dice(seed)
		m := New()
		for range 6 {
			for range d.below(2000) {
				m.Add(257+d.below(m.Used()+2), byte(d.below(256)))
				m.Add(d.below(256), byte(d.below(256)))
			}
			was := linked(m)
			m.Clear()
			for _, code := range linked(m) {
				l, _ := m.Link(code)
				if _, ok := m.Link(l.Parent); slices.Contains(was, l.Parent) && !ok {
					t.Fatal("freed:", l.Parent, "the parent of", code)
				}
			}
		}
	}
}

// linked answers which codes have links.
func linked(m *Table) []int {
	var codes []int
	for code := range 8192 {
		if _, ok := m.Link(code); ok {
			codes = append(codes, code)
		}
	}
	return codes
}

func TestManyClearsOfAFullTable(t *testing.T) { // P10.3
	m := New()
	for code := 257; code < 8191; code++ { // each its own parent, so that it stays
		add(t, m, code, 'q', code)
	}
	for range 2000 {
		m.Clear()
		add(t, m, 'a', 'b', 8191)
		wantText(t, m, 8191, "ab")
	}
	wantNextUsed(t, m, -1, 7935)
	wantChild(t, m, 8000, 'q', 8000)
}

func TestATextIsKeptAsItsPieces(t *testing.T) { // P10.1 to P10.4
	// As a packer goes through a text: the longest piece that is known, and one more byte.
	text := strings.Repeat("she sells sea shells by the sea shore; ", 400)
	m := New()
	var told strings.Builder
	for i := 0; i < len(text); {
		code, at := int(text[i]), i+1
		for at < len(text) {
			child := m.Child(code, text[at])
			if child == -1 {
				break
			}
			code, at = child, at+1
		}
		b, ok := m.Text(code)
		if !ok || string(b) != text[i:at] {
			t.Fatalf("code %d: %q, %v; want %q", code, b, ok, text[i:at])
		}
		told.Write(b)
		if at < len(text) {
			m.Add(code, text[at])
		}
		if m.Used() > 300 {
			m.Clear()
		}
		i = at
	}
	if told.String() != text {
		t.Error("another text")
	}
}
