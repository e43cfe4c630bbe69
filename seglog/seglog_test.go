package seglog_test

import (
	"bytes"
	"encoding/binary"
	"encoding/hex"
	"hash/crc32"
	"maps"
	"math"
	"slices"
	"testing"

	"spence/api"
	"spence/crash"
	"spence/flash"
	"spence/seglog"
)

// small is a device's shape: four segments of four pages of 16 bytes.
var small = shape(4, 4, 16)

// shape is a device's: segments, pages of each, bytes of each page.
func shape(segments, pages, bytes int) api.Shape {
	return api.Shape{Segments: segments, Pages: pages, Bytes: bytes}
}

// at is a page's place.
func at(seg, page int) api.Addr { return api.Addr{Segment: seg, Page: page} }

// plan is how a device crashes.
func plan(keep uint64, torn, cut int) api.Plan { return api.Plan{Keep: keep, Torn: torn, Cut: cut} }

// device is a fresh one.
func device(t *testing.T, s api.Shape) *flash.Device {
	t.Helper()
	d, e := flash.New(s)
	if e != api.OK {
		t.Fatalf("flash.New(%v): error %d", s, e)
	}
	return d
}

// shapes are such that may be a log's, the least and the greatest ones among them; in the first ones no record has room.
func shapes() []api.Shape {
	return []api.Shape{
		shape(4, 1, 16), shape(16, 1, 256), shape(4, 2, 16), shape(4, 2, 17), shape(5, 3, 16), small, shape(4, 8, 31), shape(7, 5, 20), shape(16, 4, 16),
		shape(16, 2, 256), shape(4, 16, 256), shape(4, 17, 256), shape(5, 18, 256), shape(4, 64, 16), shape(16, 64, 256),
	}
}

// edges are numbers, rising, at which something that an int, a place or a state can do begins or ends.
func edges() []int {
	return []int{
		math.MinInt, math.MinInt + 1, math.MinInt + 4, math.MinInt + 16, -1 << 33, -1 << 32, -1 << 31, -256, -64, -17, -16, -4, -3, -2, -1,
		0, 1, 2, 3, 4, 5, 6, 7, 8, 15, 16, 17, 18, 31, 32, 63, 64, 65, 255, 256, 257, 1 << 31, 1 << 32, 1<<32 + 1, 1 << 33, math.MaxInt - 16, math.MaxInt - 1, math.MaxInt,
	}
}

// A dice tells numbers without a short rule in them, the same ones each time.
type dice uint64

func (x *dice) next(below int) int {
	*x ^= *x << 13
	*x ^= *x >> 7
	*x ^= *x << 17
	return int(uint64(*x) >> 11 % uint64(below))
}

// seeded is a dice of its own for each seed.
func seeded(seed int) *dice {
	x := dice(88172645463325252 + 7919*seed)
	for range 9 {
		x.next(2)
	}
	return &x
}

// some are so many bytes without a short rule in them; a seed makes others.
func some(length, seed int) []byte {
	b, x := make([]byte, length), seeded(seed)
	for i := range b {
		b[i] = byte(x.next(256))
	}
	return b
}

// like is whether two records are alike; no Data, nil and empty, are the same.
func like(a, b api.Entry) bool {
	return a.At == b.At && a.Seq == b.Seq && a.Pages == b.Pages && a.Kind == b.Kind && string(a.Data) == string(b.Data)
}

// entry is a record as it is told.
func entry(a api.Addr, seq uint64, pages int, kind byte, data []byte) api.Entry {
	return api.Entry{At: a, Seq: seq, Pages: pages, Kind: kind, Data: data}
}

// laid are a record's bytes, told by the library.
func laid(kind byte, seq uint64, data []byte) []byte {
	out := []byte{0xA5, kind}
	out = binary.BigEndian.AppendUint16(out, uint16(len(data)))
	out = binary.BigEndian.AppendUint64(out, seq)
	out = append(out, data...)
	return binary.LittleEndian.AppendUint32(out, crc32.ChecksumIEEE(out))
}

// blank is a page to which nothing was written.
func blank(size int) string { return string(bytes.Repeat([]byte{0xFF}, size)) }

// paged is b in pages, the last one with FF behind.
func paged(b []byte, size int) []string {
	var l []string
	for ; len(b) > size; b = b[size:] {
		l = append(l, string(b[:size]))
	}
	return append(l, string(b)+blank(size-len(b)))
}

// A paper is what a log and its device must be, told page by page.
type paper struct {
	shape  api.Shape
	states []int
	page   int
	next   uint64
	pages  map[api.Addr]string
	loose  []api.Addr
	// rows has, of each segment, what was put into it since it was opened; they hold as long as it is whole.
	rows  [][]api.Entry
	whole bool
}

func blankPaper(s api.Shape) *paper {
	return &paper{shape: s, states: make([]int, s.Segments), next: 1, pages: map[api.Addr]string{}, rows: make([][]api.Entry, s.Segments), whole: true}
}

func (p *paper) copied() *paper {
	c := *p
	c.states, c.pages, c.loose = slices.Clone(p.states), maps.Clone(p.pages), slices.Clone(p.loose)
	c.rows = make([][]api.Entry, len(p.rows))
	for i, l := range p.rows {
		c.rows[i] = slices.Clone(l)
	}
	return &c
}

// opened is the segment that is, or -1.
func (p *paper) opened() int { return slices.Index(p.states, 1) }

// free are the segments that are, rising.
func (p *paper) free() []int {
	var l []int
	for seg, state := range p.states {
		if state == 0 {
			l = append(l, seg)
		}
	}
	return l
}

// lay writes bytes at the opened segment's next page.
func (p *paper) lay(b []byte) int {
	parts := paged(b, p.shape.Bytes)
	for _, part := range parts {
		a := at(p.opened(), p.page)
		p.pages[a] = part
		p.loose = append(p.loose, a)
		p.page++
	}
	return len(parts)
}

// put appends, or moves: so many segments must be free for one to be opened.
func (p *paper) put(kind byte, data []byte, need int) (api.Addr, api.Errno) {
	pages := len(paged(laid(kind, 0, data), p.shape.Bytes))
	switch {
	case kind == 1:
		return api.Addr{}, api.ErrArg
	case len(data) > 4096, 1+pages > p.shape.Pages:
		return api.Addr{}, api.ErrLong
	}
	if p.opened() < 0 || p.page+pages > p.shape.Pages {
		free := p.free()
		if len(free) < need {
			return api.Addr{}, api.ErrFull
		}
		p.seal()
		p.states[free[0]], p.page, p.rows[free[0]] = 1, 0, nil
		p.lay(laid(1, p.next, nil))
		p.next++
	}
	a := at(p.opened(), p.page)
	p.lay(laid(kind, p.next-1, data))
	p.rows[a.Segment] = append(p.rows[a.Segment], entry(a, p.next-1, pages, kind, slices.Clone(data)))
	return a, api.OK
}

func (p *paper) seal() {
	if seg := p.opened(); seg >= 0 {
		p.states[seg] = 2
	}
}

func (p *paper) sync() { p.loose = nil }

func (p *paper) erase(seg int) api.Errno {
	switch {
	case seg < 0 || seg >= p.shape.Segments:
		return api.ErrRange
	case p.states[seg] == 1:
		return api.ErrArg
	}
	maps.DeleteFunc(p.pages, func(a api.Addr, _ string) bool { return a.Segment == seg })
	p.loose = slices.DeleteFunc(p.loose, func(a api.Addr) bool { return a.Segment == seg })
	p.states[seg], p.rows[seg] = 0, nil
	return api.OK
}

// crash is the device's.
func (p *paper) crash(c api.Plan) {
	for i, a := range p.loose {
		switch {
		case i == c.Torn && c.Cut > 0:
			n := min(c.Cut, p.shape.Bytes)
			p.pages[a] = p.pages[a][:n] + blank(p.shape.Bytes-n)
		case i == c.Torn || i > 63 || c.Keep&(1<<i) == 0:
			delete(p.pages, a)
		}
	}
	p.loose, p.whole = nil, false
}

// there is whether there is such a page.
func (p *paper) there(a api.Addr) bool {
	return a.Segment >= 0 && a.Segment < p.shape.Segments && a.Page >= 0 && a.Page < p.shape.Pages
}

// record is what stands at a page that there is, by its bytes.
func (p *paper) record(a api.Addr) (api.Entry, api.Errno) {
	var text string
	for page := a.Page; page < p.shape.Pages; page++ {
		if part, used := p.pages[at(a.Segment, page)]; used {
			text += part
		} else {
			text += blank(p.shape.Bytes)
		}
	}
	b := []byte(text)
	if b[0] == 0xFF {
		return api.Entry{}, api.ErrEnd
	}
	n := int(binary.BigEndian.Uint16(b[2:]))
	if b[0] != 0xA5 || n > 4096 || len(b) < n+16 {
		return api.Entry{}, api.ErrForm
	}
	seq, data := binary.BigEndian.Uint64(b[4:]), b[12:12+n]
	if !bytes.Equal(laid(b[1], seq, data), b[:16+n]) {
		return api.Entry{}, api.ErrSum
	}
	return entry(a, seq, len(paged(b[:16+n], p.shape.Bytes)), b[1], data), api.OK
}

// read is what Read must tell.
func (p *paper) read(a api.Addr) (api.Entry, api.Errno) {
	if !p.there(a) {
		return api.Entry{}, api.ErrRange
	}
	if p.states[a.Segment] == 0 {
		return api.Entry{}, api.ErrNone
	}
	x, e := p.record(a)
	if e == api.OK && x.Kind == 1 {
		return api.Entry{}, api.ErrNone
	}
	return x, e
}

// entries is what Entries must tell, by the bytes.
func (p *paper) entries(seg int) []api.Entry {
	if !p.there(at(seg, 0)) || p.states[seg] == 0 {
		return nil
	}
	head, e := p.record(at(seg, 0))
	if e != api.OK || head.Kind != 1 || len(head.Data) != 0 {
		return nil
	}
	var l []api.Entry
	for a := at(seg, 1); p.there(a); {
		x, e := p.record(a)
		if e != api.OK || x.Kind == 1 || x.Seq != head.Seq {
			break
		}
		l = append(l, x)
		a.Page += x.Pages
	}
	return l
}

// A log is held against a paper.

// stands holds what is told of states and numbers.
func stands(t *testing.T, l *seglog.Log, p *paper) {
	t.Helper()
	for seg := -2; seg <= p.shape.Segments+1; seg++ {
		want := 2
		if p.there(at(seg, 0)) {
			want = p.states[seg]
		}
		if got := l.State(seg); got != want {
			t.Fatalf("State(%d): %d; want %d", seg, got, want)
		}
	}
	for state := -1; state <= 3; state++ {
		want := 0
		for _, x := range p.states {
			if x == state {
				want++
			}
		}
		if got := l.Count(state); got != want {
			t.Fatalf("Count(%d): %d; want %d", state, got, want)
		}
	}
	if p.opened() < 0 {
		opened(t, l, -1, 0)
	} else {
		opened(t, l, p.opened(), p.page)
	}
	next(t, l, p.next)
}

func opened(t *testing.T, l *seglog.Log, seg, page int) {
	t.Helper()
	if a, b := l.Open(); a != seg || b != page {
		t.Fatalf("Open: %d, %d; want %d, %d", a, b, seg, page)
	}
}

func next(t *testing.T, l *seglog.Log, want uint64) {
	t.Helper()
	if got := l.Next(); got != want {
		t.Fatalf("Next: %d; want %d", got, want)
	}
}

func count(t *testing.T, l *seglog.Log, free, open, sealed int) {
	t.Helper()
	if a, b, c := l.Count(seglog.Free), l.Count(seglog.Opened), l.Count(seglog.Sealed); a != free || b != open || c != sealed {
		t.Fatalf("%d Free, %d Opened, %d Sealed; want %d, %d, %d", a, b, c, free, open, sealed)
	}
}

func states(t *testing.T, l *seglog.Log, want ...int) {
	t.Helper()
	for seg, state := range want {
		if got := l.State(seg); got != state {
			t.Fatalf("State(%d): %d; want %d", seg, got, state)
		}
	}
}

// lies holds what is on the device: which pages are used, their bytes, and in which order those were written that aren't lasting.
func lies(t *testing.T, d *flash.Device, p *paper) {
	t.Helper()
	holds(t, d, p)
	none := crash.After(d, plan(0, -1, 0))
	for i, a := range p.loose {
		// A torn page is kept from page 64 on, too.
		if one := crash.After(d, plan(0, i, 256)); none.Used(a.Segment, a.Page) || !one.Used(a.Segment, a.Page) {
			t.Fatalf("page %v isn't the one that was written at %d", a, i)
		}
	}
}

// holds is lies without the order.
func holds(t *testing.T, d *flash.Device, p *paper) {
	t.Helper()
	if d.Shape() != p.shape || d.Dirty() != len(p.loose) {
		t.Fatalf("a device of %v, of which %d pages aren't lasting; want %v, %d", d.Shape(), d.Dirty(), p.shape, len(p.loose))
	}
	for seg := range p.shape.Segments {
		for page := range p.shape.Pages {
			want, used := p.pages[at(seg, page)]
			if !used {
				want = blank(p.shape.Bytes)
			}
			if got, _ := d.Read(seg, page); string(got) != want || d.Used(seg, page) != used {
				t.Fatalf("page %d of segment %d: %x, %v; want %x, %v", page, seg, got, d.Used(seg, page), want, used)
			}
		}
	}
}

// tells holds what Read and Entries tell, by the bytes, and by what was put as long as nothing was torn.
func tells(t *testing.T, l *seglog.Log, p *paper) {
	t.Helper()
	for seg := -1; seg <= p.shape.Segments; seg++ {
		for page := -1; page <= p.shape.Pages; page++ {
			want, e := p.read(at(seg, page))
			reads(t, l, at(seg, page), want, e)
		}
		want := p.entries(seg)
		if p.whole && p.there(at(seg, 0)) {
			want = p.rows[seg]
			for _, x := range want {
				reads(t, l, x.At, x, api.OK)
			}
		}
		entries(t, l, seg, want...)
	}
}

func reads(t *testing.T, l *seglog.Log, a api.Addr, want api.Entry, e api.Errno) {
	t.Helper()
	if got, f := l.Read(a); f != e || !like(got, want) {
		t.Fatalf("Read(%v): %.100v, %d; want %.100v, %d", a, got, f, want, e)
	}
}

func unread(t *testing.T, l *seglog.Log, a api.Addr, e api.Errno) {
	t.Helper()
	reads(t, l, a, api.Entry{}, e)
}

func entries(t *testing.T, l *seglog.Log, seg int, want ...api.Entry) {
	t.Helper()
	if got := l.Entries(seg); !slices.EqualFunc(got, want, like) {
		t.Fatalf("Entries(%d): %.200v; want %.200v", seg, got, want)
	}
}

// alike holds all that there is to be seen of a log; and that telling it changes nothing.
func alike(t *testing.T, l *seglog.Log, p *paper) {
	t.Helper()
	for range 2 {
		stands(t, l, p)
		tells(t, l, p)
		lies(t, l.Device(), p)
	}
}

// made is a new log and its paper.
func made(t *testing.T, s api.Shape) (*seglog.Log, *paper) {
	t.Helper()
	d := device(t, s)
	l, e := seglog.New(d)
	if e != api.OK || l == nil || l.Device() != d {
		t.Fatalf("New of %v: error %d", s, e)
	}
	return l, blankPaper(s)
}

// A putting is Append, or Move.
type putting struct {
	name string
	need int
	put  func(l *seglog.Log, kind byte, data []byte) (api.Addr, api.Errno)
}

var (
	appends  = putting{"Append", 2, (*seglog.Log).Append}
	moves    = putting{"Move", 1, (*seglog.Log).Move}
	puttings = []putting{appends, moves}
)

// both does it to a log and to its paper: the same place, or the same error.
func (x putting) both(t *testing.T, l *seglog.Log, p *paper, kind byte, data []byte) (api.Addr, api.Errno) {
	t.Helper()
	want, e := p.put(kind, data, x.need)
	if got, f := x.put(l, kind, data); got != want || f != e {
		t.Fatalf("%s of kind %d, %d bytes: %v, %d; want %v, %d", x.name, kind, len(data), got, f, want, e)
	}
	return want, e
}

// to puts something, and holds where it is.
func (x putting) to(t *testing.T, l *seglog.Log, p *paper, n int, want api.Addr) {
	t.Helper()
	if a, e := x.both(t, l, p, 3, some(n, n+int(p.next))); a != want || e != api.OK {
		t.Fatalf("%s of %d bytes: %v, %d; want %v", x.name, n, a, e, want)
	}
}

// not holds that something can't be put, and that nothing has changed.
func (x putting) not(t *testing.T, l *seglog.Log, p *paper, kind byte, data []byte, want api.Errno) {
	t.Helper()
	if a, e := x.put(l, kind, data); a != (api.Addr{}) || e != want {
		t.Fatalf("%s of kind %d, %d bytes: %v, %d; want error %d", x.name, kind, len(data), a, e, want)
	}
	stands(t, l, p)
	holds(t, l.Device(), p)
}

// erases does it to a log and to its paper: the same error.
func erases(t *testing.T, l *seglog.Log, p *paper, seg int) {
	t.Helper()
	if got, want := l.Erase(seg), p.erase(seg); got != want {
		t.Fatalf("Erase(%d): error %d; want %d", seg, got, want)
	}
}

func seals(l *seglog.Log, p *paper) {
	l.Seal()
	p.seal()
}

func syncs(l *seglog.Log, p *paper) {
	l.Sync()
	p.sync()
}

// row fills segments, one behind the other, with a record each that takes all that a head leaves.
func row(t *testing.T, l *seglog.Log, p *paper, x putting, segments ...int) {
	t.Helper()
	for _, seg := range segments {
		x.to(t, l, p, most(p.shape), at(seg, 1))
	}
}

// most is how many bytes a record has at the most that fits behind a head: below nought, if there is none.
func most(s api.Shape) int { return min((s.Pages-1)*s.Bytes-16, 4096) }

// scribbled writes something to each segment past a log: to its first page, or its last one, or both; some of it is lasting.
func scribbled(t *testing.T, d *flash.Device, p *paper) {
	t.Helper()
	s := d.Shape()
	scribble := func(seg, page int) {
		a, b := at(seg, page), some(s.Bytes, seg)
		if d.Used(seg, page) {
			return
		}
		if e := d.Write(seg, page, b); e != api.OK {
			t.Fatalf("Write: error %d", e)
		}
		p.pages[a] = string(b)
		p.loose = append(p.loose, a)
	}
	for seg := range s.Segments {
		if seg == s.Segments/2 {
			d.Sync()
			p.sync()
		}
		if seg%3 != 1 {
			scribble(seg, 0)
		}
		if seg%3 != 0 {
			scribble(seg, s.Pages-1)
		}
	}
}

// P15.1.

// TestExample: the chapter's.
func TestExample(t *testing.T) {
	l, p := made(t, shape(4, 8, 16))
	appends.to(t, l, p, 0, at(0, 1))
	alike(t, l, p)
}

func TestConstants(t *testing.T) {
	if seglog.Free != 0 || seglog.Opened != 1 || seglog.Sealed != 2 {
		t.Fatal(seglog.Free, seglog.Opened, seglog.Sealed)
	}
}

// TestNoDevice: none, one that nobody made, and devices that have too few segments; those stay as they are.
func TestNoDevice(t *testing.T) {
	wrong, _ := flash.New(shape(17, 1, 16))
	for _, d := range []*flash.Device{nil, {}, new(flash.Device), wrong} {
		if l, e := seglog.New(d); l != nil || e != api.ErrNil {
			t.Fatalf("New: %v, %d", l, e)
		}
		for _, sealed := range [][]int{nil, {}, {0}, {0, 1, 2, 3}, {-1}} {
			for _, next := range []uint64{0, 1, math.MaxUint64} {
				if l, e := seglog.Load(d, sealed, next); l != nil || e != api.ErrNil {
					t.Fatalf("Load: %v, %d", l, e)
				}
			}
		}
	}
	for segments := 1; segments <= 3; segments++ {
		for _, s := range []api.Shape{shape(segments, 1, 16), shape(segments, 8, 16), shape(segments, 64, 256)} {
			d, p := device(t, s), blankPaper(s)
			for range 2 {
				if l, e := seglog.New(d); l != nil || e != api.ErrArg {
					t.Fatalf("New of %v: %v, %d", s, l, e)
				}
				for _, sealed := range [][]int{nil, {0}, {0, 1, 2}, {0, 1, 2, 3}} {
					if l, e := seglog.Load(d, sealed, 5); l != nil || e != api.ErrArg {
						t.Fatalf("Load of %v: %v, %d", s, l, e)
					}
				}
				lies(t, d, p)
				scribbled(t, d, p)
			}
		}
	}
}

// TestNew: of a fresh device, and of one that has something in each segment: that is erased, and lasting so.
func TestNew(t *testing.T) {
	for segments := 4; segments <= 16; segments++ {
		for _, pages := range []int{1, 2, 5} {
			s := shape(segments, pages, 16)
			l, p := made(t, s)
			alike(t, l, p)
			count(t, l, segments, 0, 0)
			opened(t, l, -1, 0)
			next(t, l, 1)

			d := device(t, s)
			scribbled(t, d, blankPaper(s))
			l, e := seglog.New(d)
			if e != api.OK || l.Device() != d {
				t.Fatalf("New: error %d", e)
			}
			alike(t, l, p)
			d.Crash(plan(math.MaxUint64, -1, 0))
			alike(t, l, p)
		}
	}
	for _, s := range shapes() {
		l, p := made(t, s)
		alike(t, l, p)
	}
}

// TestNewAnew: of a device that is a log's already, in all states.
func TestNewAnew(t *testing.T) {
	old, p := made(t, small)
	row(t, old, p, appends, 0, 1)
	old.Sync()
	appends.to(t, old, p, 0, at(2, 1))
	l, e := seglog.New(old.Device())
	if e != api.OK || l == old {
		t.Fatalf("New: error %d", e)
	}
	q := blankPaper(small)
	alike(t, l, q)
	row(t, l, q, appends, 0, 1, 2)
	alike(t, l, q)
	// The old one has states of its own.
	states(t, old, 2, 2, 1, 0)
	next(t, old, 4)
}

// loaded is what Load must make of a device: its paper, or ErrArg.
func loaded(p *paper, sealed []int, next uint64) (*paper, api.Errno) {
	q := p.copied()
	q.next, q.whole = next, false
	for seg := range q.states {
		used := false
		for page := range q.shape.Pages {
			_, is := q.pages[at(seg, page)]
			used = used || is
		}
		q.states[seg] = 0
		if slices.Contains(sealed, seg) {
			q.states[seg] = 2
		} else if used {
			return nil, api.ErrArg
		}
	}
	return q, api.OK
}

// loads holds Load against that; it neither writes nor erases, and the list stays as it is.
func loads(t *testing.T, d *flash.Device, p *paper, sealed []int, number uint64) (*seglog.Log, *paper) {
	t.Helper()
	memory := append(slices.Clone(sealed), 0, 1, 2, 3, 4, 5)
	l, e := seglog.Load(d, memory[:len(sealed)], number)
	q, f := loaded(p, sealed, number)
	if e != f || (l == nil) != (e != api.OK) || e == api.OK && l.Device() != d {
		t.Fatalf("Load of %v, %d: %v, %d; want error %d", sealed, number, l, e, f)
	}
	if !slices.Equal(memory, append(slices.Clone(sealed), 0, 1, 2, 3, 4, 5)) {
		t.Fatalf("the list %v is changed to %v", sealed, memory)
	}
	lies(t, d, p)
	if e == api.OK {
		// The list isn't kept.
		clear(memory)
		stands(t, l, q)
	}
	return l, q
}

// TestLoadEach: each set of segments that have something (at the first page, or only at another one), with each set of listed ones.
func TestLoadEach(t *testing.T) {
	for used := range 16 {
		for page := range 3 {
			d, p := device(t, shape(4, 3, 16)), blankPaper(shape(4, 3, 16))
			for seg := range 4 {
				if used>>seg&1 == 1 {
					d.Write(seg, page, nil)
					p.pages[at(seg, page)] = blank(16)
					p.loose = append(p.loose, at(seg, page))
				}
			}
			if page == 2 {
				d.Sync()
				p.sync()
			}
			for listed := range 16 {
				var sealed []int
				for seg := range 4 {
					if listed>>seg&1 == 1 {
						sealed = append([]int{seg}, sealed...)
					}
				}
				l, q := loads(t, d, p, sealed, uint64(listed))
				if (l == nil) != (used&^listed != 0) {
					t.Fatalf("used %b, listed %b: %v", used, listed, l)
				}
				if l != nil {
					alike(t, l, q)
				}
			}
		}
	}
}

// TestLoadLists: nothing, all, one twice, such as there aren't; of a fresh device and of one that has something everywhere.
func TestLoadLists(t *testing.T) {
	for _, s := range []api.Shape{small, shape(5, 1, 16), shape(16, 2, 20)} {
		fresh, full := device(t, s), device(t, s)
		p, q := blankPaper(s), blankPaper(s)
		scribbled(t, full, q)
		var all []int
		for seg := range s.Segments {
			all = append(all, seg)
		}
		lists := [][]int{nil, {}, all, append(slices.Clone(all), all...), all[1:], all[:len(all)-1], {0, 0}, {2, 0, 2, 1, 2}, {1, 1, 1, 1}, edges(), append(edges(), all...), {s.Segments}, {-1, 3}, {math.MinInt, math.MaxInt}}
		for _, n := range edges() {
			lists = append(lists, []int{n}, append([]int{n}, all...), append(slices.Clone(all[1:]), n))
		}
		for _, sealed := range lists {
			for _, number := range []uint64{0, 1, 7, math.MaxUint64} {
				if l, _ := loads(t, fresh, p, sealed, number); l == nil {
					t.Fatalf("Load of %v", sealed)
				}
				loads(t, full, q, sealed, number)
			}
		}
	}
}

// TestLoadOfLog: a log's segments are listed, and it goes on: with that number, and what was put is told.
func TestLoadOfLog(t *testing.T) {
	for _, number := range []uint64{0, 1, 4, 1 << 40, math.MaxUint64 - 2} {
		old, p := made(t, shape(6, 4, 16))
		row(t, old, p, appends, 0, 1)
		appends.to(t, old, p, 3, at(2, 1))
		erases(t, old, p, 0)
		l, q := loads(t, old.Device().Copy(), p, []int{1, 2}, number)
		q.whole = true
		alike(t, l, q)
		states(t, l, 0, 2, 2, 0, 0, 0)
		row(t, l, q, appends, 0, 3)
		alike(t, l, q)
		if x := l.Entries(3); len(x) != 1 || x[0].Seq != number+1 {
			t.Fatalf("%v", x)
		}
		alike(t, old, p)
	}
}

// TestLoadCleanListed: a segment that has nothing, and is listed, isn't Free; it may be erased.
func TestLoadCleanListed(t *testing.T) {
	l, p := loads(t, device(t, small), blankPaper(small), []int{0, 2}, 1)
	unread(t, l, at(0, 0), api.ErrEnd)
	unread(t, l, at(1, 0), api.ErrNone)
	entries(t, l, 0)
	row(t, l, p, appends, 1)
	appends.not(t, l, p, 3, nil, api.ErrFull)
	row(t, l, p, moves, 3)
	moves.not(t, l, p, 3, nil, api.ErrFull)
	erases(t, l, p, 2)
	row(t, l, p, moves, 2)
	alike(t, l, p)
}

// TestStateEdges: State of all numbers, in logs that have all states; Count of all.
func TestStateEdges(t *testing.T) {
	for _, s := range []api.Shape{small, shape(5, 2, 16), shape(16, 2, 16)} {
		l, p := made(t, s)
		for range 4 {
			for _, seg := range append(edges(), s.Segments-1, s.Segments, s.Segments+1) {
				want := seglog.Sealed
				if seg >= 0 && seg < s.Segments {
					want = p.states[seg]
				}
				if got := l.State(seg); got != want {
					t.Fatalf("State(%d) of %v: %d; want %d", seg, s, got, want)
				}
				if seg < 0 || seg > 2 {
					if n := l.Count(seg); n != 0 {
						t.Fatalf("Count(%d): %d", seg, n)
					}
				}
			}
			stands(t, l, p)
			appends.both(t, l, p, 3, some(most(s), 1))
		}
		count(t, l, s.Segments-min(s.Segments-1, 4), 1, min(s.Segments-1, 4)-1)
	}
}

// TestOpenAndNext: ahead of the first Append, behind it, behind Seal, behind Erase.
func TestOpenAndNext(t *testing.T) {
	l, p := made(t, small)
	opened(t, l, -1, 0)
	next(t, l, 1)
	appends.to(t, l, p, 0, at(0, 1))
	opened(t, l, 0, 2)
	next(t, l, 2)
	appends.to(t, l, p, 16, at(0, 2))
	// All its pages are taken, and it is Opened none the less.
	opened(t, l, 0, 4)
	next(t, l, 2)
	count(t, l, 3, 1, 0)
	l.Seal()
	opened(t, l, -1, 0)
	next(t, l, 2)
	count(t, l, 3, 0, 1)
	if e := l.Erase(0); e != api.OK {
		t.Fatal(e)
	}
	opened(t, l, -1, 0)
	next(t, l, 2)
	count(t, l, 4, 0, 0)
	p.seal()
	p.erase(0)
	moves.to(t, l, p, 1, at(0, 1))
	opened(t, l, 0, 3)
	next(t, l, 3)
	alike(t, l, p)
}

// P15.2.

// TestBytes: what lies on the device, told by hand.
func TestBytes(t *testing.T) {
	for _, x := range puttings {
		for _, c := range []struct {
			next  uint64
			pages []string
		}{
			{7, []string{"a50100000000000000000007044f6ac4" + "ff"}},
			{0x0102030405060708, []string{"", "a50300050102030405060708" + "68656c6c6f", "6d1e9ff0" + "ffffffffffffffffffffffffff", "ffffffffffffffffffffffffffffffffff"}},
		} {
			d := device(t, shape(4, 4, 17))
			l, _ := seglog.Load(d, []int{0}, c.next)
			if a, e := x.put(l, 3, []byte("hello")); e != api.OK || a != at(1, 1) {
				t.Fatalf("%s: %v, %d", x.name, a, e)
			}
			for page, want := range c.pages {
				if b, _ := d.Read(1, page); want != "" && hex.EncodeToString(b) != want {
					t.Errorf("%s: page %d: %x; want %s", x.name, page, b, want)
				}
			}
			if used := crash.Pages(d); !slices.Equal(used, []api.Addr{at(1, 0), at(1, 1), at(1, 2)}) {
				t.Errorf("%s: used are %v", x.name, used)
			}
		}
	}
}

// TestKinds: each kind, with no Data, nil and empty, and with some; a head's can't be put.
func TestKinds(t *testing.T) {
	for _, x := range puttings {
		for kind := range 256 {
			l, p := made(t, shape(4, 8, 16))
			for range 2 {
				for _, data := range [][]byte{nil, {}, []byte("a"), some(17, kind)} {
					if kind == 1 {
						x.not(t, l, p, 1, data, api.ErrArg)
					} else if _, e := x.both(t, l, p, byte(kind), data); e != api.OK {
						t.Fatalf("%s of kind %d: error %d", x.name, kind, e)
					}
				}
				alike(t, l, p)
				appends.both(t, l, p, 3, nil)
			}
		}
	}
}

// TestLengths: as many bytes as just fit behind a head, one more, 4,096 and 4,097; in a new log, in one that has less room, and in one that has none.
func TestLengths(t *testing.T) {
	for _, s := range shapes() {
		n := most(s)
		lengths := []int{0, 1, 4095, 4096, 4097, 5000, 70000}
		for _, length := range []int{n - 1, n, n + 1, n + s.Bytes} {
			if length >= 0 {
				lengths = append(lengths, length)
			}
		}
		for _, x := range puttings {
			for _, length := range lengths {
				// One segment after the other: till none is Free.
				l, p := made(t, s)
				for i := range s.Segments + 2 {
					data := make([]byte, length)
					if length > n {
						x.not(t, l, p, 3, data, api.ErrLong)
					} else {
						x.both(t, l, p, 3, data)
					}
					if i < 4 {
						stands(t, l, p)
					}
					x.not(t, l, p, 1, data, api.ErrArg)
					for range min(i, 2) {
						x.both(t, l, p, 3, nil)
					}
					if n >= 0 {
						x.both(t, l, p, 3, make([]byte, n))
					}
				}
				stands(t, l, p)
				lies(t, l.Device(), p)
			}
		}
	}
}

// TestEachRoom: each number of pages, of bytes of each, with the greatest record that fits behind a head, and with one more byte.
func TestEachRoom(t *testing.T) {
	for pages := 1; pages <= 64; pages++ {
		for _, size := range []int{16, 17, 31, 65, 128, 241, 255, 256} {
			s := shape(4, pages, size)
			for _, x := range puttings {
				l, p := made(t, s)
				x.not(t, l, p, 3, make([]byte, max(most(s)+1, 0)), api.ErrLong)
				if most(s) < 0 {
					continue
				}
				x.to(t, l, p, most(s), at(0, 1))
				// behind it, or in the next one
				x.both(t, l, p, 3, nil)
				stands(t, l, p)
				holds(t, l.Device(), p)
			}
		}
	}
}

// TestBehindGreatest: 4,096 bytes that take all pages but a head's, and all but one more.
func TestBehindGreatest(t *testing.T) {
	l, p := made(t, shape(4, 18, 256))
	appends.to(t, l, p, 4096, at(0, 1))
	opened(t, l, 0, 18)
	appends.to(t, l, p, 0, at(1, 1))
	l, p = made(t, shape(4, 19, 256))
	appends.to(t, l, p, 4096, at(0, 1))
	appends.to(t, l, p, 240, at(0, 18))
	appends.to(t, l, p, 0, at(1, 1))
	alike(t, l, p)
}

// TestWhichFirst: where more errors than one would do, the one that is named first; in logs in which there is room, and in which there is none.
func TestWhichFirst(t *testing.T) {
	for _, s := range []api.Shape{shape(4, 1, 16), shape(4, 2, 16), small, shape(5, 18, 256)} {
		l, p := made(t, s)
		for range 3 {
			for _, x := range puttings {
				for _, n := range []int{0, 1, max(most(s), 0), max(most(s)+1, 0), 4096, 4097, 70000} {
					x.not(t, l, p, 1, make([]byte, n), api.ErrArg)
					if n > most(s) {
						for _, kind := range []byte{0, 2, 3, 255} {
							x.not(t, l, p, kind, make([]byte, n), api.ErrLong)
						}
					}
				}
			}
			for range s.Segments {
				// The first time as far as Append goes, then as far as Move does.
				if appends.both(t, l, p, 3, make([]byte, max(most(s), 0))); len(p.free()) == 1 {
					moves.both(t, l, p, 3, make([]byte, max(most(s), 0)))
				}
			}
		}
		if most(s) >= 0 {
			count(t, l, 0, 1, s.Segments-1)
			moves.not(t, l, p, 3, make([]byte, most(s)), api.ErrFull)
		}
	}
}

// TestJustFits: a record that takes just the pages that the Opened one has left, and one that takes one more: so that one is Sealed, and the next one Opened.
func TestJustFits(t *testing.T) {
	for _, size := range []int{16, 20, 31} {
		s := shape(5, 9, size)
		for first := range 7 {
			for _, x := range puttings {
				l, p := made(t, s)
				x.to(t, l, p, (first+1)*size-16, at(0, 1))
				left := 7 - first
				c, q := l.Copy(), p.copied()
				x.to(t, l, p, left*size-16, at(0, 2+first))
				opened(t, l, 0, 9)
				count(t, l, 4, 1, 0)
				alike(t, l, p)
				x.to(t, c, q, left*size-15, at(1, 1))
				opened(t, c, 1, left+2)
				states(t, c, 2, 1, 0, 0, 0)
				alike(t, c, q)
			}
		}
	}
}

// TestSealedStays: what was left behind when a segment was Sealed isn't used any more, also by a record that would fit there.
func TestSealedStays(t *testing.T) {
	l, p := made(t, small)
	appends.to(t, l, p, 0, at(0, 1))
	appends.to(t, l, p, 32, at(1, 1))
	appends.to(t, l, p, 0, at(2, 1))
	appends.to(t, l, p, 0, at(2, 2))
	seals(l, p)
	appends.not(t, l, p, 3, nil, api.ErrFull)
	moves.to(t, l, p, 0, at(3, 1))
	alike(t, l, p)
}

// TestLeastFree: the least one that is Free is Opened, wherever the last one was.
func TestLeastFree(t *testing.T) {
	for _, x := range puttings {
		l, p := made(t, shape(6, 3, 16))
		row(t, l, p, x, 0, 1, 2, 3)
		erases(t, l, p, 2)
		row(t, l, p, x, 2)
		erases(t, l, p, 3)
		erases(t, l, p, 1)
		erases(t, l, p, 0)
		row(t, l, p, x, 0, 1, 3, 4)
		erases(t, l, p, 2)
		alike(t, l, p)
		row(t, l, p, x, 2)
		alike(t, l, p)
	}
}

// TestFull: where two are Free, one, and none; with an error nothing has changed, the Opened one isn't Sealed.
func TestFull(t *testing.T) {
	for _, s := range []api.Shape{small, shape(5, 3, 16), shape(16, 2, 16)} {
		last := s.Segments - 1
		for _, close := range []bool{false, true} {
			l, p := made(t, s)
			for seg := range last - 1 {
				row(t, l, p, appends, seg)
			}
			count(t, l, 2, 1, last-2)
			// two
			row(t, l, p, appends, last-1)
			if close {
				seals(l, p)
			}
			// one
			for range 2 {
				appends.not(t, l, p, 3, nil, api.ErrFull)
				appends.not(t, l, p, 3, make([]byte, most(s)), api.ErrFull)
			}
			row(t, l, p, moves, last)
			if close {
				seals(l, p)
			}
			// none
			for range 2 {
				for _, x := range puttings {
					x.not(t, l, p, 3, nil, api.ErrFull)
					x.not(t, l, p, 3, make([]byte, most(s)), api.ErrFull)
				}
			}
			alike(t, l, p)
			// none, and one that is Free again
			erases(t, l, p, 1)
			appends.not(t, l, p, 3, nil, api.ErrFull)
			row(t, l, p, moves, 1)
			seals(l, p)
			erases(t, l, p, 1)
			erases(t, l, p, 2)
			row(t, l, p, appends, 1)
			appends.not(t, l, p, 3, nil, api.ErrFull)
			alike(t, l, p)
		}
	}
}

// TestRoomInOpened: in the Opened one, records have room also where no segment is Free.
func TestRoomInOpened(t *testing.T) {
	l, p := made(t, shape(4, 6, 16))
	row(t, l, p, appends, 0, 1)
	appends.to(t, l, p, 0, at(2, 1))
	count(t, l, 1, 1, 2)
	appends.not(t, l, p, 3, make([]byte, 64), api.ErrFull)
	appends.to(t, l, p, 0, at(2, 2))
	moves.to(t, l, p, 64, at(3, 1))
	count(t, l, 0, 1, 3)
	seals(l, p)
	erases(t, l, p, 0)
	moves.to(t, l, p, 0, at(0, 1))
	count(t, l, 0, 1, 3)
	for _, x := range puttings {
		x.not(t, l, p, 3, make([]byte, 64), api.ErrFull)
		x.to(t, l, p, 0, at(0, p.page))
	}
	appends.to(t, l, p, 16, at(0, 4))
	alike(t, l, p)
	for _, x := range puttings {
		x.not(t, l, p, 3, nil, api.ErrFull)
	}
}

// TestNextGreatest: one more than the greatest number that there is comes round to nought; each record has the number of its segment.
func TestNextGreatest(t *testing.T) {
	for _, x := range puttings {
		for _, number := range []uint64{0, 1, 1<<32 - 1, 1<<63 - 1, math.MaxUint64 - 1, math.MaxUint64} {
			s := shape(5, 4, 16)
			l, p := loads(t, device(t, s), blankPaper(s), nil, number)
			p.whole = true
			next(t, l, number)
			for i := range uint64(3) {
				for page := range 3 {
					x.to(t, l, p, 0, at(int(i), page+1))
					if e, f := l.Read(at(int(i), page+1)); e.Seq != number+i || f != api.OK {
						t.Fatalf("the segment at %d has the number %d, %d", i, e.Seq, f)
					}
					next(t, l, number+i+1)
				}
			}
			alike(t, l, p)
		}
	}
}

// TestNumbersRise: a segment's number is greater than that of each that was Opened ahead of it, also where it was erased, or nothing was told of it.
func TestNumbersRise(t *testing.T) {
	l, p := made(t, small)
	greatest := uint64(0)
	for i := range 60 {
		if i%7 == 3 {
			seals(l, p)
		}
		a, e := puttings[i%2].both(t, l, p, 3, make([]byte, 17*(i%2)))
		if e == api.ErrFull {
			seals(l, p)
			for seg := i % 3; seg < 4; seg += 1 + i%2 {
				erases(t, l, p, seg)
			}
			continue
		}
		x, _ := l.Read(a)
		if a.Page == 1 && x.Seq <= greatest || a.Page > 1 && x.Seq != greatest {
			t.Fatalf("%v has the number %d, and there was %d", a, x.Seq, greatest)
		}
		greatest = max(greatest, x.Seq)
		alike(t, l, p)
	}
	if greatest < 20 {
		t.Errorf("the greatest number is %d", greatest)
	}
}

// TestPastTheLog: where somebody wrote past the log, a segment can't be Opened, and nothing has changed.
func TestPastTheLog(t *testing.T) {
	for _, x := range puttings {
		l, p := made(t, shape(5, 4, 16))
		row(t, l, p, x, 0)
		l.Device().Write(1, 0, []byte("abc"))
		p.pages[at(1, 0)] = "abc" + blank(13)
		p.loose = append(p.loose, at(1, 0))
		x.not(t, l, p, 3, nil, api.ErrUsed)
		unread(t, l, at(1, 0), api.ErrNone)
		erases(t, l, p, 1)
		row(t, l, p, x, 1)
		l.Seal()
		p.seal()
		x.to(t, l, p, 0, at(2, 1))
		l.Device().Write(2, 2, nil)
		p.pages[at(2, 2)] = blank(16)
		p.loose = append(p.loose, at(2, 2))
		x.not(t, l, p, 3, nil, api.ErrUsed)
		x.to(t, l, p, 32, at(3, 1))
		alike(t, l, p)
	}
}

// P15.3.

// TestReadPlaces: where something was put, within a record, at a head, in a Free segment, where nothing was written, and where there is no page.
func TestReadPlaces(t *testing.T) {
	l, p := made(t, shape(5, 6, 16))
	first, second, third := some(17, 1), some(40, 2), []byte("abc")
	for _, c := range []struct {
		x    putting
		kind byte
		data []byte
		at   api.Addr
	}{{appends, 2, first, at(0, 1)}, {appends, 3, second, at(1, 1)}, {moves, 4, nil, at(1, 5)}, {moves, 255, third, at(2, 1)}} {
		if a, e := c.x.both(t, l, p, c.kind, c.data); a != c.at || e != api.OK {
			t.Fatalf("%v, %d; want %v", a, e, c.at)
		}
	}
	reads(t, l, at(0, 1), entry(at(0, 1), 1, 3, 2, first), api.OK)
	reads(t, l, at(1, 1), entry(at(1, 1), 2, 4, 3, second), api.OK)
	reads(t, l, at(1, 5), entry(at(1, 5), 2, 1, 4, nil), api.OK)
	reads(t, l, at(2, 1), entry(at(2, 1), 3, 2, 255, third), api.OK)
	for seg := range 3 {
		unread(t, l, at(seg, 0), api.ErrNone)
	}
	for _, a := range []api.Addr{at(0, 2), at(0, 3), at(1, 2), at(1, 3), at(1, 4), at(2, 2)} {
		unread(t, l, a, api.ErrForm)
	}
	for _, a := range []api.Addr{at(0, 4), at(0, 5), at(2, 3), at(2, 5)} {
		unread(t, l, a, api.ErrEnd)
	}
	for seg := 3; seg < 5; seg++ {
		for page := range 6 {
			unread(t, l, at(seg, page), api.ErrNone)
		}
	}
	for _, seg := range append(edges(), 0, 1, 2, 3, 4) {
		for _, page := range edges() {
			if !p.there(at(seg, page)) {
				unread(t, l, at(seg, page), api.ErrRange)
			}
		}
	}
	alike(t, l, p)
}

// TestReadWithin: bytes within a record's Data that are a record themselves: that one is told, but no head.
func TestReadWithin(t *testing.T) {
	within := func(b []byte) []byte { return append(make([]byte, 4), b...) }
	for _, x := range puttings {
		l, p := made(t, shape(4, 8, 16))
		spoilt := laid(5, 6, []byte("within"))
		spoilt[14] ^= 1
		for i, b := range [][]byte{laid(5, 6, []byte("within")), laid(1, 6, nil), laid(1, 1, []byte("within")), spoilt} {
			x.both(t, l, p, 3, within(b))
			seals(l, p)
			a := at(i, 2)
			switch i {
			case 0:
				reads(t, l, a, entry(a, 6, 2, 5, []byte("within")), api.OK)
			case 3:
				if x.need == 2 {
					unread(t, l, a, api.ErrNone) // that one is Free
				} else {
					unread(t, l, a, api.ErrSum)
				}
			default:
				unread(t, l, a, api.ErrNone)
			}
		}
		alike(t, l, p)
	}
}

// TestEntries: of each segment, the Opened one among them, of a Free one, of one that there isn't.
func TestEntries(t *testing.T) {
	l, p := made(t, shape(5, 6, 16))
	for _, seg := range edges() {
		entries(t, l, seg)
	}
	var rows [3][]api.Entry
	for i, c := range []struct {
		n  int
		at api.Addr
	}{{0, at(0, 1)}, {20, at(0, 2)}, {30, at(1, 1)}, {0, at(1, 4)}, {0, at(1, 5)}, {16, at(2, 1)}} {
		data := some(c.n, i)
		if a, e := appends.both(t, l, p, byte(2+i), data); a != c.at || e != api.OK {
			t.Fatalf("%v, %d; want %v", a, e, c.at)
		}
		rows[c.at.Segment] = append(rows[c.at.Segment], entry(c.at, uint64(c.at.Segment+1), (c.n+31)/16, byte(2+i), data))
	}
	for seg, want := range rows {
		entries(t, l, seg, want...)
	}
	states(t, l, 2, 2, 1, 0, 0)
	for _, seg := range append(edges(), 3, 4, 5, -1) {
		if seg < 0 || seg > 2 {
			entries(t, l, seg)
		}
	}
	// What is written past the log into a Free one isn't told.
	l.Device().Write(3, 0, laid(1, 9, nil))
	l.Device().Write(3, 1, laid(3, 9, nil))
	entries(t, l, 3)
	unread(t, l, at(3, 1), api.ErrNone)
}

// TestErase: of a Free one, the Opened one, a Sealed one, one that there isn't.
func TestErase(t *testing.T) {
	for _, s := range []api.Shape{small, shape(5, 3, 17), shape(16, 3, 16)} {
		l, p := made(t, s)
		row(t, l, p, appends, 0, 1)
		l.Sync()
		p.sync()
		row(t, l, p, appends, 2)
		for _, seg := range edges() {
			if seg < 0 || seg >= s.Segments {
				if e := l.Erase(seg); e != api.ErrRange {
					t.Fatalf("Erase(%d): error %d", seg, e)
				}
			}
		}
		if e := l.Erase(2); e != api.ErrArg {
			t.Fatalf("Erase of the Opened one: error %d", e)
		}
		alike(t, l, p)
		for _, seg := range []int{3, 0, 0} {
			if e := l.Erase(seg); e != api.OK {
				t.Fatalf("Erase(%d): error %d", seg, e)
			}
			p.erase(seg)
			alike(t, l, p)
		}
		unread(t, l, at(0, 1), api.ErrNone)
		entries(t, l, 0)
		// Of an erased one nothing comes back, whatever the crash.
		c, q := l.Copy(), p.copied()
		c.Device().Crash(plan(math.MaxUint64, -1, 0))
		q.crash(plan(math.MaxUint64, -1, 0))
		alike(t, c, q)
		seals(l, p)
		for seg := range s.Segments {
			erases(t, l, p, seg)
			alike(t, l, p)
		}
		count(t, l, s.Segments, 0, 0)
		row(t, l, p, appends, 0)
		alike(t, l, p)
	}
}

// TestEraseOfLoose: of a segment of which nothing was lasting, too; the rest of what isn't lasting stays in its order.
func TestEraseOfLoose(t *testing.T) {
	l, p := made(t, shape(5, 3, 16))
	row(t, l, p, appends, 0, 1, 2)
	erases(t, l, p, 1)
	alike(t, l, p)
	row(t, l, p, appends, 1)
	alike(t, l, p)
	erases(t, l, p, 2)
	erases(t, l, p, 0)
	alike(t, l, p)
}

// TestOpenedAnew: behind Erase a place has nothing, and once its segment was Opened anew just what is there then.
func TestOpenedAnew(t *testing.T) {
	for _, x := range puttings {
		l, p := made(t, shape(4, 6, 16))
		x.to(t, l, p, 0, at(0, 1))
		x.to(t, l, p, 33, at(0, 2))
		row(t, l, p, x, 1)
		erases(t, l, p, 0)
		for page := range 6 {
			unread(t, l, at(0, page), api.ErrNone)
		}
		entries(t, l, 0)
		seals(l, p)
		data := some(20, 77)
		if a, e := x.both(t, l, p, 4, data); a != at(0, 1) || e != api.OK {
			t.Fatal(a, e)
		}
		want := entry(at(0, 1), 3, 3, 4, data)
		reads(t, l, at(0, 1), want, api.OK)
		entries(t, l, 0, want)
		unread(t, l, at(0, 2), api.ErrForm)
		unread(t, l, at(0, 4), api.ErrEnd)
		alike(t, l, p)
	}
}

// TestSeal: with an Opened one, without, and twice.
func TestSeal(t *testing.T) {
	l, p := made(t, small)
	for range 2 {
		l.Seal()
		alike(t, l, p)
	}
	appends.to(t, l, p, 0, at(0, 1))
	for range 2 {
		seals(l, p)
		opened(t, l, -1, 0)
		states(t, l, 2, 0, 0, 0)
		next(t, l, 2)
		alike(t, l, p)
	}
	appends.to(t, l, p, 0, at(1, 1))
	next(t, l, 3)
	seals(l, p)
	states(t, l, 2, 2, 0, 0)
	alike(t, l, p)
}

// TestSync: what a crash leaves: all that was synced, and of the rest what the plan keeps; the log has its states none the less.
func TestSync(t *testing.T) {
	for synced := range 4 {
		l, p := made(t, small)
		for i, n := range []int{5, 0, 20} {
			if i == synced {
				syncs(l, p)
				if l.Device().Dirty() != 0 {
					t.Fatal("something isn't lasting")
				}
			}
			puttings[i%2].both(t, l, p, byte(2+i), some(n, i))
		}
		lasting := p.copied()
		lasting.crash(plan(0, -1, 0))
		for _, cut := range []int{-1, 1, 15, 16} {
			for c := range crash.Torn(l.Device().Dirty(), cut) {
				x, q := l.Copy(), p.copied()
				x.Device().Crash(c)
				q.crash(c)
				stands(t, x, q)
				tells(t, x, q)
				lies(t, x.Device(), q)
				for a, part := range lasting.pages {
					if b, _ := x.Device().Read(a.Segment, a.Page); string(b) != part {
						t.Fatalf("%v was lasting, and is gone behind %v", a, c)
					}
				}
			}
			if cut > 0 {
				continue
			}
			for c := range crash.All(l.Device().Dirty()) {
				x, q := l.Copy(), p.copied()
				x.Device().Crash(c)
				q.crash(c)
				stands(t, x, q)
				tells(t, x, q)
				lies(t, x.Device(), q)
			}
		}
	}
}

// TestSyncAll: behind a Sync all that was put is told behind each crash.
func TestSyncAll(t *testing.T) {
	l, p := made(t, shape(5, 5, 20))
	for i := range 9 {
		puttings[i%2].both(t, l, p, byte(2+i), some(9*i, i))
	}
	syncs(l, p)
	for _, c := range []api.Plan{plan(0, -1, 0), plan(0, 0, 0), plan(math.MaxUint64, 3, 1)} {
		l.Device().Crash(c)
		alike(t, l, p)
	}
}

// TestCopy: neither turns the other one afterwards, nor its device; a copy is as what it was made of.
func TestCopy(t *testing.T) {
	deeds := []func(t *testing.T, l *seglog.Log, p *paper){
		func(t *testing.T, l *seglog.Log, p *paper) { appends.both(t, l, p, 3, []byte("a")) },
		func(t *testing.T, l *seglog.Log, p *paper) { moves.both(t, l, p, 3, some(32, 1)) },
		func(t *testing.T, l *seglog.Log, p *paper) { erases(t, l, p, 0) },
		func(t *testing.T, l *seglog.Log, p *paper) { seals(l, p) },
		func(t *testing.T, l *seglog.Log, p *paper) { syncs(l, p) },
		func(t *testing.T, l *seglog.Log, p *paper) {
			l.Device().Crash(plan(2, 0, 3))
			p.crash(plan(2, 0, 3))
		},
	}
	for length := range 4 {
		for i, deed := range deeds {
			for _, then := range deeds {
				l, p := made(t, shape(5, 4, 16))
				for n := range length {
					row(t, l, p, appends, n)
				}
				c, q := l.Copy(), p.copied()
				if c == l || c.Device() == l.Device() || c.Device() != c.Device() {
					t.Fatal("a copy has what isn't its own")
				}
				if i%2 == 0 {
					deed(t, l, p)
				} else {
					deed(t, c, q)
				}
				alike(t, l, p)
				alike(t, c, q)
				then(t, c, q)
				alike(t, l, p)
				alike(t, c, q)
				then(t, l, p)
				alike(t, l, p)
				alike(t, c, q)
			}
		}
	}
}

// TestCopiesOfCopies: none of them shares anything with another one.
func TestCopiesOfCopies(t *testing.T) {
	l, p := made(t, shape(6, 4, 16))
	row(t, l, p, appends, 0)
	a, q := l.Copy(), p.copied()
	b, r := a.Copy(), p.copied()
	appends.to(t, a, q, 0, at(1, 1))
	seals(b, r)
	erases(t, b, r, 0)
	row(t, b, r, moves, 0)
	row(t, l, p, appends, 1, 2)
	alike(t, l, p)
	alike(t, a, q)
	alike(t, b, r)
}

// P1: logs that nobody made.

func TestNobodyMade(t *testing.T) {
	var value seglog.Log
	wrong, _ := seglog.New(nil)
	few, _ := seglog.New(device(t, shape(3, 4, 16)))
	unlisted := device(t, small)
	unlisted.Write(0, 0, nil)
	load, _ := seglog.Load(unlisted, nil, 1)
	for _, l := range []*seglog.Log{nil, {}, &value, new(seglog.Log), wrong, few, load, (*seglog.Log)(nil).Copy(), value.Copy()} {
		for range 2 {
			for _, n := range edges() {
				if got := l.State(n); got != seglog.Sealed {
					t.Fatalf("State(%d): %d", n, got)
				}
				if got := l.Count(n); got != 0 {
					t.Fatalf("Count(%d): %d", n, got)
				}
				if e := l.Erase(n); e != api.ErrNil {
					t.Fatalf("Erase(%d): error %d", n, e)
				}
				entries(t, l, n)
				for _, page := range edges() {
					unread(t, l, at(n, page), api.ErrNil)
				}
			}
			for _, x := range puttings {
				for kind := range 256 {
					for _, data := range [][]byte{nil, {}, []byte("a"), make([]byte, 4096), make([]byte, 4097)} {
						if a, e := x.put(l, byte(kind), data); a != (api.Addr{}) || e != api.ErrNil {
							t.Fatalf("%s: %v, %d", x.name, a, e)
						}
					}
				}
			}
			l.Seal()
			l.Sync()
			opened(t, l, -1, 0)
			next(t, l, 0)
			if l.Device() != nil || l.Copy() != nil {
				t.Fatal("it has something")
			}
		}
	}
}

// P2, P3: what is whose.

// TestOwnData: bytes that are handed in stay as they are, aren't read behind their length, and may be changed afterwards.
func TestOwnData(t *testing.T) {
	for _, x := range puttings {
		for n := range 40 {
			l, p := made(t, shape(4, 8, 16))
			memory := some(60, 1)
			x.both(t, l, p, 3, memory[:n])
			x.both(t, l, p, 4, memory[:n:n])
			x.not(t, l, p, 1, memory[:n], api.ErrArg)
			if !bytes.Equal(memory, some(60, 1)) {
				t.Fatalf("what was handed in is changed: %x", memory)
			}
			copy(memory, some(60, 2))
			alike(t, l, p)
		}
	}
}

// TestOwnAnswers: what is told may be changed, and written behind; no two answers share memory, nor does one change with the log.
func TestOwnAnswers(t *testing.T) {
	spoil := func(b []byte) {
		for i := range b[:cap(b)] {
			b[:cap(b)][i] = 77
		}
	}
	for _, n := range []int{0, 1, 5, 16, 40} {
		l, p := made(t, shape(4, 16, 16))
		for range 3 {
			appends.both(t, l, p, 3, some(n, n))
		}
		a, _ := l.Read(at(0, 1))
		b, _ := l.Read(at(0, 1))
		first, second := l.Entries(0), l.Entries(0)
		spoil(a.Data)
		for _, x := range first {
			spoil(x.Data)
			if string(b.Data) != string(some(n, n)) {
				t.Fatalf("two answers share memory: %x", b.Data)
			}
		}
		clear(first[:cap(first)])
		for _, x := range second {
			if string(x.Data) != string(some(n, n)) {
				t.Fatalf("two answers share memory: %x", x.Data)
			}
		}
		if len(second) > 1 {
			// Nor do two records of one answer.
			spoil(second[0].Data)
			if string(second[1].Data) != string(some(n, n)) {
				t.Fatalf("two records share memory: %x", second[1].Data)
			}
		}
		alike(t, l, p)
		third := l.Entries(0)
		seals(l, p)
		erases(t, l, p, 0)
		appends.both(t, l, p, 3, some(60, 9))
		for _, x := range append(third, b) {
			if string(x.Data) != string(some(n, n)) {
				t.Fatalf("an answer changes with the log: %x", x.Data)
			}
		}
		alike(t, l, p)
	}
}

// For any deeds in any order.

// A deed is done to a log and to its paper alike.
type deed func(t *testing.T, l *seglog.Log, p *paper)

// deeds are what may be done to a small log; what is put is another one each time.
func deeds(s api.Shape) []deed {
	var l []deed
	for _, x := range puttings {
		for _, n := range []int{0, s.Bytes - 10, most(s), most(s) + 1} {
			l = append(l, func(t *testing.T, l *seglog.Log, p *paper) {
				t.Helper()
				seed := int(p.next)*100 + len(p.pages)
				x.both(t, l, p, byte(2+seed%4), some(n, seed))
			})
		}
	}
	for seg := range s.Segments {
		l = append(l, func(t *testing.T, l *seglog.Log, p *paper) {
			t.Helper()
			erases(t, l, p, seg)
		})
	}
	return append(l, func(t *testing.T, l *seglog.Log, p *paper) {
		seals(l, p)
	}, func(t *testing.T, l *seglog.Log, p *paper) {
		syncs(l, p)
	})
}

// TestRowsOfDeeds: each row of so many deeds, from some logs on, of a copy of what each shorter one left; what a copy was made of stays as it is.
func TestRowsOfDeeds(t *testing.T) {
	s := shape(4, 3, 16)
	all := deeds(s)
	var further func(l *seglog.Log, p *paper, more int)
	further = func(l *seglog.Log, p *paper, more int) {
		for _, deed := range all {
			c, q := l.Copy(), p.copied()
			deed(t, c, q)
			stands(t, c, q)
			tells(t, c, q)
			if more == 1 {
				holds(t, c.Device(), q)
			} else {
				further(c, q, more-1)
			}
		}
		alike(t, l, p)
	}
	for filled := range 5 {
		l, p := made(t, s)
		for seg := range filled {
			if seg < 3 {
				row(t, l, p, appends, seg)
			} else {
				row(t, l, p, moves, seg)
			}
		}
		further(l, p, 3)
	}
	l, p := made(t, s)
	further(l, p, 4)
}

// TestRowsWithoutCopy: each row of three deeds, from a new log on, and from one that is almost full.
func TestRowsWithoutCopy(t *testing.T) {
	s := shape(4, 3, 16)
	all := deeds(s)
	for choice := range len(all) * len(all) * len(all) {
		for _, filled := range [][]int{nil, {0, 1, 2}} {
			l, p := made(t, s)
			row(t, l, p, appends, filled...)
			for n := choice; n > 0; n /= len(all) {
				all[n%len(all)](t, l, p)
			}
			stands(t, l, p)
			tells(t, l, p)
			lies(t, l.Device(), p)
		}
	}
}

// TestPlays: long rows of deeds, on devices of all shapes; crashes and logs that are Loaded anew among them, now and then.
func TestPlays(t *testing.T) {
	put, full := 0, 0
	for seed := range 150 {
		x := seeded(seed)
		s := shape(4+x.next(13), 1+x.next(12), 16+x.next(30))
		if seed < len(shapes()) {
			s = shapes()[seed]
		}
		l, p := made(t, s)
		torn := seed%3 == 0
		for range 120 {
			switch k := x.next(100); {
			case k < 70:
				n := x.next(max(most(s), 0) + 2)
				if x.next(3) > 0 {
					n = x.next(min(n, 2*s.Bytes) + 1)
				}
				_, e := puttings[x.next(2)].both(t, l, p, byte(x.next(7)), some(n, x.next(1000)))
				if e == api.OK {
					put++
				} else if e == api.ErrFull {
					full++
				}
			case k < 88:
				erases(t, l, p, x.next(s.Segments+2)-1)
			case k < 92:
				seals(l, p)
			case k < 96:
				syncs(l, p)
			case k < 98 && torn:
				c := plan(uint64(x.next(1<<32))<<32|uint64(x.next(1<<32)), x.next(len(p.loose)+2)-1, x.next(s.Bytes+2)-1)
				l.Device().Crash(c)
				p.crash(c)
			case k < 99:
				l, p = l.Copy(), p.copied()
			default:
				var sealed []int
				for seg, state := range p.states {
					if state != 0 {
						sealed = append(sealed, seg)
					}
				}
				whole := p.whole
				l, p = loads(t, l.Device(), p, sealed, p.next)
				p.whole = whole
			}
			stands(t, l, p)
			if x.next(10) == 0 {
				tells(t, l, p)
				holds(t, l.Device(), p)
			}
		}
		tells(t, l, p)
		lies(t, l.Device(), p)
	}
	if put < 2000 || full < 500 {
		t.Errorf("%d records were put, and for %d there was no room", put, full)
	}
}

// TestReadTillErased: what was put is Read at its place, as it was put, till its segment is erased; each record has a place of its own.
func TestReadTillErased(t *testing.T) {
	for seed := range 20 {
		x := seeded(seed + 500)
		s := shape(4+x.next(6), 3+x.next(20), 16+x.next(60))
		l, _ := made(t, s)
		there := map[api.Addr]api.Entry{}
		for range 300 {
			switch x.next(6) {
			case 0:
				seg := x.next(s.Segments)
				if l.Erase(seg) == api.OK {
					for page := range s.Pages {
						unread(t, l, at(seg, page), api.ErrNone)
						delete(there, at(seg, page))
					}
				}
			case 1:
				l.Seal()
			default:
				kind, data := byte(2+x.next(4)), some(x.next(most(s)+1), x.next(1000))
				a, e := puttings[x.next(2)].put(l, kind, data)
				if e == api.ErrFull {
					continue
				}
				_, is := there[a]
				got, f := l.Read(a)
				if e != api.OK || f != api.OK || is || got.At != a || got.Kind != kind || !bytes.Equal(got.Data, data) {
					t.Fatalf("%v, %d: %v, %d, %v", a, e, got, f, is)
				}
				there[a] = got
			}
			for a, want := range there {
				reads(t, l, a, want, api.OK)
			}
		}
	}
}
