package flash_test

import (
	"bytes"
	"math"
	"slices"
	"testing"

	"spence/api"
	"spence/flash"
)

// shape is a device's: segments, pages of each, bytes of each page.
func shape(segments, pages, bytes int) api.Shape {
	return api.Shape{Segments: segments, Pages: pages, Bytes: bytes}
}

// plan is how a device crashes.
func plan(keep uint64, torn, cut int) api.Plan { return api.Plan{Keep: keep, Torn: torn, Cut: cut} }

// all is Keep with all its bits.
const all = math.MaxUint64

// least and most are the shapes that may be, with the least and the greatest numbers.
var (
	least = shape(1, 1, 16)
	most  = shape(16, 64, 256)
)

// edges are numbers, rising, at which something that an int or a shape can do begins or ends.
func edges() []int {
	return []int{
		math.MinInt, math.MinInt + 1, -1 << 32, -257, -256, -65, -64, -17, -16, -2, -1, 0, 1, 2, 15, 16, 17, 63, 64, 65, 128, 255, 256, 257, 512,
		1 << 31, 1 << 32, 1 << 40, math.MaxInt - 1, math.MaxInt,
	}
}

// filled is so many bytes that are the same.
func filled(x byte, n int) []byte { return bytes.Repeat([]byte{x}, n) }

// blank is what an erased page of n bytes has.
func blank(n int) []byte { return filled(255, n) }

// paged is b as a page of n bytes has it.
func paged(b []byte, n int) []byte { return slices.Concat(b, blank(n-len(b))) }

// made is a device of that shape.
func made(t *testing.T, s api.Shape) *flash.Device {
	t.Helper()
	d, e := flash.New(s)
	if e != api.OK || d == nil {
		t.Fatalf("New(%v): %v, error %d", s, d, e)
	}
	return d
}

// is holds a number, an error or a bool against what it must be.
func is[T comparable](t *testing.T, what string, got, want T) {
	t.Helper()
	if got != want {
		t.Fatalf("%s: %v; want %v", what, got, want)
	}
}

// has holds a page that is used, with b, and FF behind.
func has(t *testing.T, d *flash.Device, seg, page int, b []byte) {
	t.Helper()
	pageIs(t, d, seg, page, true, paged(b, d.Shape().Bytes))
}

// isBlank holds a page that is erased.
func isBlank(t *testing.T, d *flash.Device, seg, page int) {
	t.Helper()
	pageIs(t, d, seg, page, false, blank(d.Shape().Bytes))
}

// pageIs holds a page against what it must be.
func pageIs(t *testing.T, d *flash.Device, seg, page int, used bool, want []byte) {
	t.Helper()
	got, e := d.Read(seg, page)
	if u := d.Used(seg, page); u != used || e != api.OK || !bytes.Equal(got, want) {
		t.Fatalf("page %d of segment %d: used %v, %v, error %d; want used %v, %v", page, seg, u, got, e, used, want)
	}
}

// allBlank holds a device all of whose pages are erased.
func allBlank(t *testing.T, d *flash.Device) {
	t.Helper()
	for seg := range d.Shape().Segments {
		for page := range d.Shape().Pages {
			isBlank(t, d, seg, page)
		}
	}
	is(t, "Dirty of an erased device", d.Dirty(), 0)
}

// write writes what may be written.
func write(t *testing.T, d *flash.Device, seg, page int, b []byte) {
	t.Helper()
	if e := d.Write(seg, page, b); e != api.OK {
		t.Fatalf("Write(%d, %d, %v): error %d", seg, page, b, e)
	}
}

// erase erases a segment that there is.
func erase(t *testing.T, d *flash.Device, seg int) {
	t.Helper()
	if e := d.Erase(seg); e != api.OK {
		t.Fatalf("Erase(%d): error %d", seg, e)
	}
}

// A sheet is a page of a paper: since is 0, if it is lasting, or else the number of its write.
type sheet struct {
	used  bool
	bytes []byte
	since int
}

// A paper is a device told page by page: an independent reading of the chapter.
type paper struct {
	shape  api.Shape
	sheets [][]sheet
	writes int
}

// blankPaper is a paper all of whose pages are erased.
func blankPaper(s api.Shape) *paper {
	p := &paper{shape: s}
	for range s.Segments {
		p.sheets = append(p.sheets, nil)
		for range s.Pages {
			last := len(p.sheets) - 1
			p.sheets[last] = append(p.sheets[last], sheet{bytes: blank(s.Bytes)})
		}
	}
	return p
}

// copied is a paper of its own.
func (p *paper) copied() *paper {
	c := *p
	c.sheets = nil
	for _, l := range p.sheets {
		// The bytes of a sheet are never changed, but by others.
		c.sheets = append(c.sheets, slices.Clone(l))
	}
	return &c
}

// sheet is a page, or nil.
func (p *paper) sheet(seg, page int) *sheet {
	if seg < 0 || seg >= p.shape.Segments || page < 0 || page >= p.shape.Pages {
		return nil
	}
	return &p.sheets[seg][page]
}

func (p *paper) write(seg, page int, b []byte) api.Errno {
	s := p.sheet(seg, page)
	if s == nil {
		return api.ErrRange
	}
	if len(b) > p.shape.Bytes {
		return api.ErrLong
	}
	if s.used {
		return api.ErrUsed
	}
	p.writes++
	*s = sheet{used: true, bytes: paged(b, p.shape.Bytes), since: p.writes}
	return api.OK
}

func (p *paper) erase(seg int) api.Errno {
	if p.sheet(seg, 0) == nil {
		return api.ErrRange
	}
	for page := range p.shape.Pages {
		p.sheets[seg][page] = sheet{bytes: blank(p.shape.Bytes)}
	}
	return api.OK
}

// loose are the pages that aren't lasting, in the order in which they were written.
func (p *paper) loose() []*sheet {
	var l []*sheet
	for seg := range p.sheets {
		for page := range p.sheets[seg] {
			if s := &p.sheets[seg][page]; s.since > 0 {
				l = append(l, s)
			}
		}
	}
	slices.SortFunc(l, func(a, b *sheet) int { return a.since - b.since })
	return l
}

func (p *paper) sync() {
	for _, s := range p.loose() {
		s.since = 0
	}
}

func (p *paper) crash(c api.Plan) {
	for i, s := range p.loose() {
		bit := i < 64 && c.Keep/(1<<uint(i%64))%2 == 1
		stays := bit
		if i == c.Torn {
			cut := c.Cut
			if cut < 0 {
				cut = 0
			}
			if cut > p.shape.Bytes {
				cut = p.shape.Bytes
			}
			s.bytes, stays = paged(s.bytes[:cut], p.shape.Bytes), cut > 0
		}
		s.since = 0
		if !stays {
			*s = sheet{bytes: blank(p.shape.Bytes)}
		}
	}
}

// alike holds a device against a paper: each page, how many aren't lasting, and the shape.
func alike(t *testing.T, d *flash.Device, p *paper) {
	t.Helper()
	for seg := range p.sheets {
		for page, s := range p.sheets[seg] {
			pageIs(t, d, seg, page, s.used, s.bytes)
		}
	}
	if d.Dirty() != len(p.loose()) || d.Shape() != p.shape {
		t.Fatalf("Dirty %d, Shape %v; want %d, %v", d.Dirty(), d.Shape(), len(p.loose()), p.shape)
	}
}

// P11.1.

// TestRight: each of the three numbers at each edge, beside each edge of the others.
func TestRight(t *testing.T) {
	for _, a := range edges() {
		for _, b := range edges() {
			for _, c := range edges() {
				right := a > 0 && a < 17 && b > 0 && b < 65 && c > 15 && c < 257
				if flash.Right(shape(a, b, c)) != right {
					t.Fatalf("Right(%d, %d, %d): %v", a, b, c, !right)
				}
				if !right {
					d, e := flash.New(shape(a, b, c))
					if d != nil || e != api.ErrArg {
						t.Fatalf("New(%d, %d, %d): %v, error %d", a, b, c, d, e)
					}
				}
			}
		}
	}
}

// TestRightOfEach: all numbers from one below the least to one above the greatest.
func TestRightOfEach(t *testing.T) {
	count := 0
	for a := -1; a <= 18; a++ {
		for b := -1; b <= 66; b++ {
			for c := -1; c <= 258; c++ {
				if flash.Right(shape(a, b, c)) {
					count++
				}
			}
		}
	}
	is(t, "shapes that are Right", count, 16*64*241)
	for _, s := range []api.Shape{least, most, shape(1, 64, 256), shape(16, 1, 256), shape(16, 64, 16), shape(1, 1, 256), shape(1, 64, 16), shape(16, 1, 16)} {
		is(t, "Right", flash.Right(s), true)
	}
	for _, s := range []api.Shape{
		{}, shape(0, 1, 16), shape(17, 1, 16), shape(-1, 1, 16), shape(1, 0, 16), shape(1, 65, 16), shape(1, -1, 16), shape(1, 1, 15), shape(1, 1, 257), shape(1, 1, 0), shape(1, 1, -16),
	} {
		is(t, "Right", flash.Right(s), false)
	}
}

// TestNew: a device of each number that may be is erased, and has its shape.
func TestNew(t *testing.T) {
	for _, segments := range []int{1, 2, 15, 16} {
		for _, pages := range []int{1, 2, 63, 64} {
			for _, bytes := range []int{16, 17, 255, 256} {
				s := shape(segments, pages, bytes)
				d := made(t, s)
				is(t, "Shape", d.Shape(), s)
				allBlank(t, d)
				_, e := d.Read(segments, 0)
				is(t, "Read behind the last segment", e, api.ErrRange)
				_, e = d.Read(0, pages)
				is(t, "Read behind the last page", e, api.ErrRange)
				is(t, "Write behind the last segment", d.Write(segments, 0, nil), api.ErrRange)
				is(t, "Write behind the last page", d.Write(0, pages, nil), api.ErrRange)
				write(t, d, segments-1, pages-1, filled(7, bytes))
				has(t, d, segments-1, pages-1, filled(7, bytes))
				is(t, "Write of one byte more", d.Write(0, 0, filled(7, bytes+1)), api.ErrLong)
			}
		}
	}
}

// TestShapeStays: whatever is done to a device, its shape is the one that it was made of; devices have nothing in common.
func TestShapeStays(t *testing.T) {
	s := shape(3, 4, 20)
	d, other := made(t, s), made(t, s)
	write(t, d, 1, 2, []byte{1})
	is(t, "Shape", d.Shape(), s)
	d.Sync()
	write(t, d, 0, 2, []byte{1})
	d.Crash(plan(1, -1, 0))
	erase(t, d, 1)
	is(t, "Shape", d.Shape(), s)
	s.Pages = 60
	is(t, "Shape", d.Shape(), shape(3, 4, 20))
	has(t, d, 0, 2, []byte{1})
	allBlank(t, other)
}

// P11.2.

// TestWriteEachLength: pages at each corner, with so many bytes as there may be; one more is too long, and changes nothing.
func TestWriteEachLength(t *testing.T) {
	for _, s := range []api.Shape{least, shape(2, 3, 17), most} {
		for n := range s.Bytes + 1 {
			d := made(t, s)
			var want []*sheet
			for _, at := range corners(s) {
				b := filled(byte(n+len(want)), n)
				write(t, d, at.Segment, at.Page, b)
				want = append(want, &sheet{bytes: b})
			}
			for i, at := range corners(s) {
				has(t, d, at.Segment, at.Page, want[i].bytes)
			}
			is(t, "Dirty", d.Dirty(), len(want))
		}
		for _, more := range []int{1, 2, 100, 70000} {
			d := made(t, s)
			is(t, "Write of too many bytes", d.Write(s.Segments-1, s.Pages-1, filled(1, s.Bytes+more)), api.ErrLong)
			allBlank(t, d)
		}
	}
}

// corners are the first page and the last one of the first segment and the last one, each once.
func corners(s api.Shape) []api.Addr {
	var l []api.Addr
	for _, seg := range []int{0, s.Segments - 1} {
		for _, page := range []int{0, s.Pages - 1} {
			if at := (api.Addr{Segment: seg, Page: page}); !slices.Contains(l, at) {
				l = append(l, at)
			}
		}
	}
	return l
}

// TestWriteNothing: nil bytes, and none, are written, too: the page is used, isn't lasting, and has FF.
func TestWriteNothing(t *testing.T) {
	for _, b := range [][]byte{nil, {}, filled(1, 5)[:0]} {
		d := made(t, least)
		write(t, d, 0, 0, b)
		has(t, d, 0, 0, nil)
		is(t, "Dirty", d.Dirty(), 1)
		is(t, "Write once more", d.Write(0, 0, b), api.ErrUsed)
		is(t, "Dirty", d.Dirty(), 1)
		c := d.Copy()
		has(t, c, 0, 0, nil)
		c.Crash(plan(1, -1, 0))
		has(t, c, 0, 0, nil)
		d.Crash(plan(0, -1, 0))
		isBlank(t, d, 0, 0)
	}
}

// TestWriteBlank: a page that FF was written to is used none the less.
func TestWriteBlank(t *testing.T) {
	d := made(t, least)
	write(t, d, 0, 0, blank(16))
	has(t, d, 0, 0, nil)
	is(t, "Write once more", d.Write(0, 0, []byte{1}), api.ErrUsed)
	d.Crash(plan(all, -1, 0))
	has(t, d, 0, 0, nil)
}

// TestNoSuchPage: each pair of edges as a place, in devices of some shapes.
func TestNoSuchPage(t *testing.T) {
	for _, s := range []api.Shape{least, shape(2, 15, 16), shape(16, 1, 16), shape(1, 64, 16), most} {
		d := made(t, s)
		for _, seg := range edges() {
			for _, page := range edges() {
				place(t, d, seg, page)
			}
		}
		is(t, "Dirty", d.Dirty(), 0)
		// What isn't there is no page that is used, either.
		p := blankPaper(s)
		for seg := range s.Segments {
			for page := range s.Pages {
				write(t, d, seg, page, []byte{3})
				p.write(seg, page, []byte{3})
			}
		}
		for _, seg := range edges() {
			for _, page := range edges() {
				if p.sheet(seg, page) == nil {
					place(t, d, seg, page)
				}
			}
		}
		alike(t, d, p)
	}
}

// place holds Write, Read and Used of a page that may be there or not, and erases it again.
func place(t *testing.T, d *flash.Device, seg, page int) {
	t.Helper()
	s := d.Shape()
	if seg >= 0 && seg < s.Segments && page >= 0 && page < s.Pages {
		isBlank(t, d, seg, page)
		write(t, d, seg, page, []byte{1, 2})
		has(t, d, seg, page, []byte{1, 2})
		erase(t, d, seg)
		return
	}
	b, e := d.Read(seg, page)
	if b != nil || e != api.ErrRange || d.Used(seg, page) || d.Write(seg, page, []byte{1}) != api.ErrRange || d.Write(seg, page, nil) != api.ErrRange || d.Used(seg, page) {
		t.Fatalf("page %d of segment %d of %v: %v, error %d, used %v", page, seg, s, b, e, d.Used(seg, page))
	}
}

// TestErrorsInOrder: where several errors apply, the first one counts; nothing changes with any.
func TestErrorsInOrder(t *testing.T) {
	s := shape(2, 3, 16)
	d, p := made(t, s), blankPaper(s)
	write(t, d, 1, 2, []byte{9})
	p.write(1, 2, []byte{9})
	long := filled(1, 17)
	for _, c := range []struct {
		seg, page int
		b         []byte
		want      api.Errno
	}{
		{2, 0, long, api.ErrRange}, {0, 3, long, api.ErrRange}, {-1, 0, long, api.ErrRange}, {0, -1, long, api.ErrRange}, {2, 3, long, api.ErrRange}, {1, 3, long, api.ErrRange},
		{math.MinInt, 2, long, api.ErrRange}, {1, math.MaxInt, long, api.ErrRange},
		{2, 2, nil, api.ErrRange}, {1, 3, []byte{1}, api.ErrRange},
		{1, 2, long, api.ErrLong}, {0, 0, long, api.ErrLong},
		{1, 2, []byte{1}, api.ErrUsed}, {1, 2, nil, api.ErrUsed}, {1, 2, filled(1, 16), api.ErrUsed}, {1, 2, []byte{9}, api.ErrUsed},
	} {
		is(t, "Write", d.Write(c.seg, c.page, c.b), c.want)
		alike(t, d, p)
	}
	d.Sync()
	p.sync()
	is(t, "Write of a page that is lasting", d.Write(1, 2, []byte{1}), api.ErrUsed)
	is(t, "Write of a page that is lasting", d.Write(1, 2, long), api.ErrLong)
	alike(t, d, p)
	is(t, "Write once more", d.Write(0, 0, []byte{1}), api.OK)
}

// TestEachPage: each page of the greatest device has what was written to it, and no other one's.
func TestEachPage(t *testing.T) {
	d, p := made(t, most), blankPaper(most)
	for i := range 16 * 64 {
		// All places, each once, in an order that isn't a rising one.
		at := i * 389 % (16 * 64)
		b := []byte{byte(at), byte(at >> 8), byte(i)}
		write(t, d, at/64, at%64, b)
		p.write(at/64, at%64, b)
		is(t, "Dirty", d.Dirty(), i+1)
	}
	alike(t, d, p)
	for seg := range 16 {
		for page := range 64 {
			is(t, "Write once more", d.Write(seg, page, nil), api.ErrUsed)
		}
	}
	alike(t, d, p)
}

// P11.3.

// TestSync: what was written ahead of Sync is lasting, what was written behind it isn't.
func TestSync(t *testing.T) {
	d := made(t, shape(2, 3, 16))
	d.Sync()
	allBlank(t, d)
	write(t, d, 0, 0, []byte{1})
	write(t, d, 1, 2, []byte{2})
	is(t, "Dirty", d.Dirty(), 2)
	d.Sync()
	is(t, "Dirty", d.Dirty(), 0)
	has(t, d, 0, 0, []byte{1})
	write(t, d, 0, 1, []byte{3})
	is(t, "Dirty", d.Dirty(), 1)
	d.Crash(plan(0, -1, 0))
	has(t, d, 0, 0, []byte{1})
	has(t, d, 1, 2, []byte{2})
	isBlank(t, d, 0, 1)
	is(t, "Dirty", d.Dirty(), 0)
	d.Sync()
	d.Crash(plan(0, 0, 0))
	has(t, d, 0, 0, []byte{1})
	has(t, d, 1, 2, []byte{2})
}

// TestDirty: behind each deed as many as aren't lasting.
func TestDirty(t *testing.T) {
	d := made(t, shape(2, 4, 16))
	dirty := func(want int) {
		t.Helper()
		is(t, "Dirty", d.Dirty(), want)
	}
	dirty(0)
	write(t, d, 0, 0, nil)
	dirty(1)
	is(t, "Write", d.Write(0, 0, nil), api.ErrUsed)
	is(t, "Write", d.Write(0, 4, nil), api.ErrRange)
	is(t, "Write", d.Write(0, 1, filled(1, 17)), api.ErrLong)
	dirty(1)
	write(t, d, 1, 0, nil)
	write(t, d, 0, 1, nil)
	dirty(3)
	is(t, "Erase", d.Erase(2), api.ErrRange)
	dirty(3)
	erase(t, d, 0)
	dirty(1)
	erase(t, d, 0)
	dirty(1)
	write(t, d, 0, 0, nil)
	dirty(2)
	d.Sync()
	dirty(0)
	write(t, d, 0, 1, nil)
	write(t, d, 0, 2, nil)
	dirty(2)
	erase(t, d, 0)
	dirty(0)
	write(t, d, 0, 0, nil)
	dirty(1)
	d.Crash(plan(all, -1, 0))
	dirty(0)
	write(t, d, 0, 1, nil)
	dirty(1)
	d.Crash(plan(0, -1, 0))
	dirty(0)
	erase(t, d, 1)
	dirty(0)
}

// TestErase: all pages of the segment, and no other ones, are erased, those that are lasting and those that aren't.
func TestErase(t *testing.T) {
	s := shape(3, 4, 16)
	for seg := range 3 {
		d, p := made(t, s), blankPaper(s)
		for i := range 12 {
			if i == 5 || i == 7 || i == 10 {
				d.Sync()
				p.sync()
			}
			at := i * 5 % 12
			write(t, d, at/4, at%4, []byte{byte(i)})
			p.write(at/4, at%4, []byte{byte(i)})
		}
		for range 2 {
			erase(t, d, seg)
			p.erase(seg)
			alike(t, d, p)
		}
		for page := range 4 {
			write(t, d, seg, page, []byte{50, byte(page)})
			p.write(seg, page, []byte{50, byte(page)})
		}
		alike(t, d, p)
		for _, c := range []api.Plan{plan(0, -1, 0), plan(0b101101, 2, 1), plan(all, -1, 0)} {
			d, p := d.Copy(), p.copied()
			d.Crash(c)
			p.crash(c)
			alike(t, d, p)
		}
	}
}

// TestEraseNone: a segment that isn't there is not erased, nor any other one.
func TestEraseNone(t *testing.T) {
	for _, s := range []api.Shape{least, shape(2, 2, 16), most} {
		d, p := made(t, s), blankPaper(s)
		for _, at := range corners(s) {
			write(t, d, at.Segment, at.Page, []byte{1})
			p.write(at.Segment, at.Page, []byte{1})
		}
		for _, seg := range append(edges(), s.Segments) {
			if seg < 0 || seg >= s.Segments {
				is(t, "Erase", d.Erase(seg), api.ErrRange)
			}
		}
		alike(t, d, p)
	}
}

// TestEraseIsLasting: what was erased stays so in a crash, also if what lay there was synced.
func TestEraseIsLasting(t *testing.T) {
	d := made(t, shape(2, 2, 16))
	write(t, d, 0, 0, []byte{1})
	d.Sync()
	write(t, d, 0, 1, []byte{2})
	erase(t, d, 0)
	d.Crash(plan(all, 0, 16))
	allBlank(t, d)
	write(t, d, 0, 0, []byte{3})
	d.Crash(plan(0, -1, 0))
	allBlank(t, d)
	write(t, d, 0, 0, []byte{4})
	has(t, d, 0, 0, []byte{4})
	d.Sync()
	d.Crash(plan(0, -1, 0))
	has(t, d, 0, 0, []byte{4})
}

// TestMovedUp: a page that is erased ahead of being lasting leaves the row, and those behind it move up; written again it stands last.
func TestMovedUp(t *testing.T) {
	start := func() *flash.Device {
		d := made(t, shape(3, 2, 16))
		write(t, d, 0, 0, []byte{1, 1})
		write(t, d, 1, 0, []byte{2, 2})
		write(t, d, 0, 1, []byte{3, 3})
		write(t, d, 2, 0, []byte{4, 4})
		erase(t, d, 0)
		return d
	}
	d := start()
	d.Crash(plan(1, 1, 1))
	has(t, d, 1, 0, []byte{2, 2})
	has(t, d, 2, 0, []byte{4})
	isBlank(t, d, 0, 0)
	isBlank(t, d, 0, 1)
	d = start()
	write(t, d, 0, 0, []byte{5, 5})
	d.Crash(plan(0b100, 0, 1))
	has(t, d, 1, 0, []byte{2})
	isBlank(t, d, 2, 0)
	has(t, d, 0, 0, []byte{5, 5})
}

// TestSyncedLeavesTheRow: pages that are lasting have no place in the row any more.
func TestSyncedLeavesTheRow(t *testing.T) {
	d := made(t, shape(1, 4, 16))
	write(t, d, 0, 0, []byte{1})
	write(t, d, 0, 1, []byte{2})
	d.Sync()
	write(t, d, 0, 2, []byte{3})
	write(t, d, 0, 3, []byte{4})
	d.Crash(plan(0b10, -1, 0))
	has(t, d, 0, 0, []byte{1})
	has(t, d, 0, 1, []byte{2})
	isBlank(t, d, 0, 2)
	has(t, d, 0, 3, []byte{4})
}

// P11.4.

// TestExample: the chapter's.
func TestExample(t *testing.T) {
	d := made(t, least)
	write(t, d, 0, 0, []byte{1})
	d.Crash(plan(0, -1, 0))
	allBlank(t, d)
}

// cuts are the bytes that a torn page may keep: each number, and edges.
func cuts(bytes int) []int {
	l := edges()
	for n := -2; n <= bytes+2; n++ {
		l = append(l, n)
	}
	return l
}

// crashed is what is left of pages that were written in that order, behind a crash: it is held against a paper.
func crashed(t *testing.T, s api.Shape, order []api.Addr, c api.Plan) *flash.Device {
	t.Helper()
	d, p := made(t, s), blankPaper(s)
	for i, at := range order {
		b := make([]byte, s.Bytes-i%3)
		for k := range b {
			b[k] = byte(i*16 + k)
		}
		write(t, d, at.Segment, at.Page, b)
		p.write(at.Segment, at.Page, b)
	}
	d.Crash(c)
	p.crash(c)
	alike(t, d, p)
	is(t, "Dirty behind a crash", d.Dirty(), 0)
	return d
}

// TestEachPlan: pages in an order that isn't that of their places, Keep with each set of bits, Torn at each page and beside them, and some Cuts.
func TestEachPlan(t *testing.T) {
	s := shape(2, 3, 16)
	order := []api.Addr{{Segment: 1, Page: 2}, {Segment: 0, Page: 1}, {Segment: 1, Page: 0}, {Segment: 0, Page: 0}, {Segment: 0, Page: 2}}
	for n := range len(order) + 1 {
		for keep := range uint64(1 << (n + 1)) {
			for torn := -2; torn <= n+1; torn++ {
				for _, cut := range []int{math.MinInt, -1, 0, 1, 8, 15, 16, 17, math.MaxInt} {
					crashed(t, s, order[:n], plan(keep, torn, cut))
				}
			}
		}
		for _, torn := range edges() {
			for _, keep := range []uint64{0, 1, 0b1010, 1 << 63, all, all - 1} {
				crashed(t, s, order[:n], plan(keep, torn, 3))
			}
		}
	}
}

// TestEachCut: of a page that is torn there is as much as Cut says, whatever its bit is.
func TestEachCut(t *testing.T) {
	for _, bytes := range []int{16, 17, 255, 256} {
		s := shape(2, 2, bytes)
		order := []api.Addr{{Segment: 1, Page: 1}, {Segment: 0, Page: 1}, {Segment: 1, Page: 0}}
		for _, cut := range cuts(bytes) {
			for torn := range 3 {
				for _, keep := range []uint64{0, 0b111, 1 << torn, 0b111 - 1<<torn} {
					crashed(t, s, order, plan(keep, torn, cut))
				}
			}
		}
	}
}

// TestTorn: what is told of a torn page, by hand.
func TestTorn(t *testing.T) {
	whole := []byte{10, 11, 12, 13, 14, 15, 16, 17, 18, 19, 20, 21, 22, 23, 24, 25}
	for _, keep := range []uint64{0, 1, all} {
		for _, cut := range cuts(16) {
			d := made(t, least)
			write(t, d, 0, 0, whole)
			d.Crash(plan(keep, 0, cut))
			if cut <= 0 {
				isBlank(t, d, 0, 0)
				write(t, d, 0, 0, []byte{7})
				continue
			}
			has(t, d, 0, 0, whole[:min(cut, 16)])
			is(t, "Write of a torn page", d.Write(0, 0, nil), api.ErrUsed)
			d.Crash(plan(0, 0, 0))
			has(t, d, 0, 0, whole[:min(cut, 16)])
		}
	}
}

// TestTornOfFew: a page keeps no more than was written to it; it is used, as long as it keeps a byte, be it one of the FF behind.
func TestTornOfFew(t *testing.T) {
	for n := range 17 {
		for _, cut := range cuts(16) {
			d := made(t, least)
			write(t, d, 0, 0, filled(5, n))
			d.Crash(plan(0, 0, cut))
			if cut <= 0 {
				isBlank(t, d, 0, 0)
			} else {
				has(t, d, 0, 0, filled(5, min(n, cut)))
			}
		}
	}
}

// TestEachBit: of 64 pages just those are kept whose bit is 1.
func TestEachBit(t *testing.T) {
	s := shape(4, 16, 16)
	order := make([]api.Addr, 64)
	for i := range order {
		at := i * 37 % 64
		order[i] = api.Addr{Segment: at / 16, Page: at % 16}
	}
	for bit := range 64 {
		for _, keep := range []uint64{1 << bit, all - 1<<bit, all >> bit, all << bit} {
			d := crashed(t, s, order, plan(keep, -1, 0))
			is(t, "Used", d.Used(order[bit].Segment, order[bit].Page), keep>>bit%2 == 1)
			crashed(t, s, order, plan(keep, bit, 4))
			crashed(t, s, order, plan(keep, bit, 0))
			crashed(t, s, order, plan(keep, 63-bit, 9))
		}
	}
}

// TestMoreThanBits: from page 64 on none is kept, but for the one that is torn.
func TestMoreThanBits(t *testing.T) {
	s := shape(3, 64, 16)
	var order []api.Addr
	for page := range 64 {
		for seg := range 3 {
			order = append(order, api.Addr{Segment: 2 - seg, Page: page})
		}
	}
	for _, n := range []int{63, 64, 65, 66, 128, 129, 192} {
		for _, torn := range []int{-1, 0, 62, 63, 64, 65, 127, 128, 191, 192} {
			for _, cut := range []int{0, 5, 16} {
				for _, keep := range []uint64{0, all, 1, 1 << 63} {
					d := crashed(t, s, order[:n], plan(keep, torn, cut))
					for i := 64; i < n; i++ {
						is(t, "Used", d.Used(order[i].Segment, order[i].Page), i == torn && cut > 0)
					}
				}
			}
		}
	}
}

// TestGreatestCrash: all pages of the greatest device, none of which is lasting.
func TestGreatestCrash(t *testing.T) {
	var order []api.Addr
	for i := range 1024 {
		order = append(order, api.Addr{Segment: i % 16, Page: i / 16})
	}
	for _, torn := range []int{-1, 0, 64, 1023, 1024} {
		crashed(t, most, order, plan(all, torn, 255))
		crashed(t, most, order, plan(1, torn, 0))
	}
}

// TestCrashTwice: behind a crash all is lasting, so a second one changes nothing of it; what is written between the two stands in a new row.
func TestCrashTwice(t *testing.T) {
	for _, first := range []api.Plan{plan(0, -1, 0), plan(all, -1, 0), plan(0b10, 0, 5), plan(0b01, 1, 0)} {
		for keep := range uint64(8) {
			for torn := -1; torn <= 3; torn++ {
				second := plan(keep, torn, 3)
				s := shape(2, 2, 16)
				d, p := made(t, s), blankPaper(s)
				write(t, d, 0, 0, []byte{1, 2, 3, 4, 5, 6})
				write(t, d, 1, 0, []byte{11, 12, 13, 14, 15, 16})
				p.write(0, 0, []byte{1, 2, 3, 4, 5, 6})
				p.write(1, 0, []byte{11, 12, 13, 14, 15, 16})
				d.Crash(first)
				p.crash(first)
				alike(t, d, p)
				d.Crash(second)
				p.crash(second)
				alike(t, d, p)
				write(t, d, 1, 1, []byte{21, 22, 23, 24})
				write(t, d, 0, 1, []byte{31, 32, 33, 34})
				p.write(1, 1, []byte{21, 22, 23, 24})
				p.write(0, 1, []byte{31, 32, 33, 34})
				d.Crash(second)
				p.crash(second)
				alike(t, d, p)
			}
		}
	}
}

// TestCrashOfNothing: a device that has nothing that isn't lasting crashes without a trace, by any plan.
func TestCrashOfNothing(t *testing.T) {
	d, p := made(t, shape(2, 2, 16)), blankPaper(shape(2, 2, 16))
	crashes := func() {
		t.Helper()
		for _, n := range edges() {
			for _, keep := range []uint64{0, 1, all} {
				d.Crash(plan(keep, n, n))
				d.Crash(plan(keep, 0, n))
				alike(t, d, p)
			}
		}
	}
	crashes()
	write(t, d, 1, 0, []byte{1, 2})
	p.write(1, 0, []byte{1, 2})
	d.Sync()
	p.sync()
	crashes()
}

// deeds are what may be done to a device and to a paper alike; both tell the same error.
func deeds(s api.Shape) []func(t *testing.T, d *flash.Device, p *paper) {
	type deed = func(t *testing.T, d *flash.Device, p *paper)
	var l []deed
	for seg := range s.Segments {
		for page := range s.Pages {
			l = append(l, func(t *testing.T, d *flash.Device, p *paper) {
				t.Helper()
				// What is written tells which write it was, and of each number of bytes there is one.
				b := filled(byte(p.writes+1), (5+6*p.writes)%(s.Bytes+1))
				is(t, "Write", d.Write(seg, page, b), p.write(seg, page, b))
			})
		}
		l = append(l, func(t *testing.T, d *flash.Device, p *paper) {
			t.Helper()
			is(t, "Erase", d.Erase(seg), p.erase(seg))
		})
	}
	for _, c := range []api.Plan{plan(0, -1, 0), plan(0b01, -1, 0), plan(0b10, 0, 3), plan(0b101, 1, 0), plan(all, 1, 16)} {
		l = append(l, func(t *testing.T, d *flash.Device, p *paper) {
			d.Crash(c)
			p.crash(c)
		})
	}
	return append(l, func(t *testing.T, d *flash.Device, p *paper) {
		d.Sync()
		p.sync()
	})
}

// TestRowsOfDeeds: each row of five deeds, of a copy of what each shorter one left; what a copy was made of stays as it is.
func TestRowsOfDeeds(t *testing.T) {
	s := shape(2, 2, 16)
	l := deeds(s)
	var further func(d *flash.Device, p *paper, more int)
	further = func(d *flash.Device, p *paper, more int) {
		if more == 0 {
			return
		}
		for _, deed := range l {
			d, p := d.Copy(), p.copied()
			deed(t, d, p)
			alike(t, d, p)
			further(d, p, more-1)
		}
		alike(t, d, p)
	}
	further(made(t, s), blankPaper(s), 5)
}

// TestRowsWithoutCopy: each row of four deeds, from a new device on.
func TestRowsWithoutCopy(t *testing.T) {
	s := shape(2, 2, 16)
	l := deeds(s)
	rows := len(l) * len(l) * len(l) * len(l)
	for row := range rows {
		d, p := made(t, s), blankPaper(s)
		for range 4 {
			l[row%len(l)](t, d, p)
			row /= len(l)
		}
		alike(t, d, p)
	}
}

// some is a row of numbers below most that looks like chance, and is the same each time.
func some(seed uint32) func(most int) int {
	return func(most int) int {
		seed = seed*1664525 + 1013904223
		return int(seed>>8) % most
	}
}

// TestLongRows: long rows of deeds, of devices of some shapes.
func TestLongRows(t *testing.T) {
	for seed, s := range []api.Shape{least, shape(1, 5, 17), shape(3, 3, 16), shape(4, 64, 16), shape(16, 2, 40), most} {
		next := some(uint32(seed))
		d, p := made(t, s), blankPaper(s)
		for i := range 3000 {
			switch k := next(200); {
			case k < 2:
				c := plan(uint64(next(1<<24))<<40|uint64(next(1<<24))<<20|uint64(next(1<<24)), next(80)-2, next(s.Bytes+4)-2)
				d.Crash(c)
				p.crash(c)
			case k < 4:
				d.Sync()
				p.sync()
			case k < 8:
				seg := next(s.Segments+2) - 1
				is(t, "Erase", d.Erase(seg), p.erase(seg))
			default:
				seg, page, b := next(s.Segments+1), next(s.Pages+1), filled(byte(i), next(s.Bytes+2))
				is(t, "Write", d.Write(seg, page, b), p.write(seg, page, b))
			}
			is(t, "Dirty", d.Dirty(), len(p.loose()))
			if i%50 == 0 {
				alike(t, d, p)
			}
		}
		alike(t, d, p)
	}
}

// A device goes its own way.

// TestCopy: a copy is as what it was made of; what is done to one isn't seen in the other one.
func TestCopy(t *testing.T) {
	s := shape(3, 2, 16)
	start := func() (*flash.Device, *paper) {
		d, p := made(t, s), blankPaper(s)
		for i, at := range []api.Addr{{Segment: 1, Page: 1}, {Segment: 0, Page: 0}, {Segment: 2, Page: 0}, {Segment: 1, Page: 0}} {
			if i == 2 {
				d.Sync()
				p.sync()
			}
			b := []byte{byte(i), 100, 101, 102}
			write(t, d, at.Segment, at.Page, b)
			p.write(at.Segment, at.Page, b)
		}
		return d, p
	}
	for _, deed := range append(deeds(s), func(t *testing.T, d *flash.Device, p *paper) {
		d.Crash(plan(0, 0, 1))
		p.crash(plan(0, 0, 1))
	}) {
		for _, first := range []bool{true, false} {
			d, p := start()
			e, q := d.Copy(), p.copied()
			alike(t, e, q)
			if first {
				deed(t, d, p)
			} else {
				deed(t, e, q)
			}
			alike(t, d, p)
			alike(t, e, q)
			is(t, "Write", d.Write(2, 1, []byte{200}), p.write(2, 1, []byte{200}))
			is(t, "Write", e.Write(2, 1, []byte{201}), q.write(2, 1, []byte{201}))
			d.Crash(plan(0b10, 0, 1))
			p.crash(plan(0b10, 0, 1))
			alike(t, d, p)
			alike(t, e, q)
			e.Crash(plan(0b01, 1, 1))
			q.crash(plan(0b01, 1, 1))
			alike(t, d, p)
			alike(t, e, q)
		}
	}
}

// TestCopiesOfCopies: none of them shares its row with another one.
func TestCopiesOfCopies(t *testing.T) {
	s := shape(2, 8, 16)
	d := made(t, s)
	write(t, d, 0, 0, []byte{1})
	write(t, d, 0, 1, []byte{2})
	write(t, d, 0, 2, []byte{3})
	a := d.Copy()
	b, c := d.Copy(), a.Copy()
	write(t, a, 1, 0, []byte{4})
	write(t, b, 1, 1, []byte{5})
	write(t, c, 1, 2, []byte{6})
	write(t, d, 1, 3, []byte{7})
	for i, x := range []*flash.Device{a, b, c, d} {
		is(t, "Dirty", x.Dirty(), 4)
		x.Crash(plan(0b1000, 1, 1))
		for page := range 4 {
			if page == i {
				has(t, x, 1, page, []byte{byte(4 + i)})
			} else {
				isBlank(t, x, 1, page)
			}
		}
		isBlank(t, x, 0, 0)
		has(t, x, 0, 1, []byte{2})
		isBlank(t, x, 0, 2)
	}
	erase(t, d, 0)
	has(t, a, 0, 1, []byte{2})
}

// P1: a device that nobody made.

// nobody holds all calls on d, with some arguments of each kind, against what a device that nobody made answers.
func nobody(t *testing.T, d *flash.Device) {
	t.Helper()
	for _, n := range edges() {
		for _, k := range []int{-1, 0, 1, n} {
			b, e := d.Read(n, k)
			if b != nil || e != api.ErrNil {
				t.Fatalf("Read(%d, %d): %v, error %d", n, k, b, e)
			}
			for _, b := range [][]byte{nil, {1}, filled(1, 16), filled(1, 257)} {
				is(t, "Write", d.Write(n, k, b), api.ErrNil)
			}
			is(t, "Used", d.Used(n, k), false)
			d.Crash(plan(uint64(k), k, n))
			d.Crash(plan(all, n, k))
		}
		is(t, "Erase", d.Erase(n), api.ErrNil)
	}
	d.Sync()
	is(t, "Shape", d.Shape(), api.Shape{})
	is(t, "Dirty", d.Dirty(), 0)
	if c := d.Copy(); c != nil {
		t.Fatalf("Copy: %v", c)
	}
}

func TestNobodyMade(t *testing.T) {
	var value flash.Device
	wrong, _ := flash.New(shape(17, 1, 16))
	for _, d := range []*flash.Device{nil, {}, new(flash.Device), &value, wrong, (*flash.Device)(nil).Copy(), value.Copy()} {
		// Once more: no call makes anything of it.
		nobody(t, d)
		nobody(t, d)
	}
}

// P2, P3: what is whose.

// TestOwnBytes: bytes that are handed in stay as they are, aren't read behind their length, and may be changed afterwards.
func TestOwnBytes(t *testing.T) {
	for n := range 17 {
		d := made(t, shape(1, 3, 16))
		memory := filled(9, 40)
		write(t, d, 0, 0, memory[:n])
		is(t, "Write of too many bytes", d.Write(0, 1, memory[:17]), api.ErrLong)
		is(t, "Write of a page that is used", d.Write(0, 0, memory[:16]), api.ErrUsed)
		write(t, d, 0, 2, memory[:n:n])
		c := d.Copy()
		d.Crash(plan(0b10, 0, 16))
		if !bytes.Equal(memory, filled(9, 40)) {
			t.Fatalf("what was handed in is changed: %v", memory)
		}
		copy(memory, filled(77, 40))
		for _, x := range []*flash.Device{c, d} {
			has(t, x, 0, 0, filled(9, n))
			has(t, x, 0, 2, filled(9, n))
			isBlank(t, x, 0, 1)
		}
	}
}

// TestOwnAnswers: bytes that Read gave may be changed, and written behind; they don't change with the device, either.
func TestOwnAnswers(t *testing.T) {
	for _, n := range []int{0, 1, 8, 16} {
		d := made(t, shape(1, 2, 16))
		write(t, d, 0, 0, filled(9, n))
		c := d.Copy()
		for _, page := range []int{0, 1} {
			a, _ := d.Read(0, page)
			b, _ := d.Read(0, page)
			before := slices.Clone(b)
			is(t, "length", len(a), 16)
			for i := range a[:cap(a)] {
				a[:cap(a)][i] = 77
			}
			if !bytes.Equal(b, before) {
				t.Fatalf("two answers share memory: %v", b)
			}
		}
		has(t, d, 0, 0, filled(9, n))
		isBlank(t, d, 0, 1)
		has(t, c, 0, 0, filled(9, n))
		isBlank(t, c, 0, 1)
	}
	d := made(t, least)
	write(t, d, 0, 0, filled(9, 16))
	b, _ := d.Read(0, 0)
	d.Crash(plan(0, 0, 3))
	erase(t, d, 0)
	write(t, d, 0, 0, filled(8, 16))
	if !bytes.Equal(b, filled(9, 16)) {
		t.Fatalf("an answer changes with the device: %v", b)
	}
	is(t, "Write of what was read", d.Write(0, 0, b), api.ErrUsed)
	erase(t, d, 0)
	write(t, d, 0, 0, b)
	b[0] = 1
	has(t, d, 0, 0, filled(9, 16))
}

// TestSameAnswers: calls that only tell something change nothing; nil and no bytes are the same.
func TestSameAnswers(t *testing.T) {
	s := shape(2, 2, 16)
	d, p := made(t, s), blankPaper(s)
	write(t, d, 1, 0, nil)
	p.write(1, 0, []byte{})
	write(t, d, 0, 1, []byte{})
	p.write(0, 1, nil)
	for range 3 {
		alike(t, d, p)
		d.Copy()
		d.Shape()
		d.Read(5, 5)
		d.Used(5, 5)
	}
	d.Crash(plan(0b10, -1, 0))
	p.crash(plan(0b10, -1, 0))
	alike(t, d, p)
}
