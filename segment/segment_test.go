package segment_test

import (
	"bytes"
	"encoding/binary"
	"encoding/hex"
	"hash/crc32"
	"maps"
	"math"
	"math/big"
	"slices"
	"testing"

	"spence/api"
	"spence/crash"
	"spence/flash"
	"spence/segment"
)

// small is a device's shape: two segments of eight pages of 16 bytes.
var small = shape(2, 8, 16)

// shape is a device's: segments, pages of each, bytes of each page.
func shape(segments, pages, bytes int) api.Shape {
	return api.Shape{Segments: segments, Pages: pages, Bytes: bytes}
}

// at is a page's place.
func at(seg, page int) api.Addr { return api.Addr{Segment: seg, Page: page} }

// plan is how a device crashes.
func plan(keep uint64, torn, cut int) api.Plan { return api.Plan{Keep: keep, Torn: torn, Cut: cut} }

// device is a fresh one.
func device(t *testing.T, s api.Shape) *flash.Device {
	t.Helper()
	d, e := flash.New(s)
	if e != api.OK {
		t.Fatalf("New(%v): error %d", s, e)
	}
	return d
}

// shapes are such that may be, the least and the greatest ones among them.
func shapes() []api.Shape {
	return []api.Shape{
		shape(1, 1, 16), shape(1, 2, 16), shape(2, 1, 17), small, shape(3, 5, 17), shape(2, 7, 31), shape(1, 9, 32), shape(4, 64, 16),
		shape(1, 16, 256), shape(2, 17, 255), shape(1, 18, 256), shape(16, 64, 256),
	}
}

// wrongShapes are such that may not be: each number beyond one of its bounds, alone and with the others.
func wrongShapes() []api.Shape {
	l := []api.Shape{{}, shape(-1, -1, -1), shape(math.MinInt, math.MinInt, math.MinInt), shape(math.MaxInt, math.MaxInt, math.MaxInt), shape(17, 65, 257), shape(0, 0, 16), shape(1, 0, 0), shape(1, 1, 15)}
	for _, n := range []int{math.MinInt, math.MinInt + 1, -1 << 32, -16, -1, 0, 1 << 32, 1<<32 + 8, math.MaxInt - 1, math.MaxInt} {
		l = append(l, shape(n, 8, 16), shape(2, n, 16), shape(2, 8, n))
	}
	return append(l, shape(17, 8, 16), shape(2, 65, 16), shape(2, 8, 1), shape(2, 8, 15), shape(2, 8, 257), shape(2, 8, 4096))
}

// edges are numbers, rising, at which something that an int, a place or a length can do begins or ends.
func edges() []int {
	return []int{
		math.MinInt, math.MinInt + 1, math.MinInt + 16, math.MinInt + 64, -1 << 32, -4096, -64, -17, -16, -15, -2, -1,
		0, 1, 2, 3, 7, 8, 9, 15, 16, 17, 31, 32, 33, 63, 64, 65, 255, 256, 257, 4079, 4080, 4081, 4095, 4096, 4097, 4112, 65536,
		1 << 31, 1 << 32, 1<<32 + 1, 1 << 62, math.MaxInt - 64, math.MaxInt - 16, math.MaxInt - 1, math.MaxInt,
	}
}

// A dice tells numbers without a short rule in them, the same ones each time.
type dice uint64

func (x *dice) next(below int) int {
	*x ^= *x << 13
	*x ^= *x >> 7
	*x ^= *x << 17
	return int(uint64(*x) >> 11 % uint64(below))
}

// seeded is a dice of its own for each seed.
func seeded(seed int) *dice {
	x := dice(88172645463325252 + 7919*seed)
	for range 9 {
		x.next(2)
	}
	return &x
}

// some are so many bytes without a short rule in them; a seed makes others.
func some(length, seed int) []byte {
	b, x := make([]byte, length), seeded(seed)
	for i := range b {
		b[i] = byte(x.next(256))
	}
	return b
}

// laid are a record's bytes, told by the library.
func laid(kind byte, seq uint64, data []byte) []byte {
	out := []byte{0xA5, kind}
	out = binary.BigEndian.AppendUint16(out, uint16(len(data)))
	out = binary.BigEndian.AppendUint64(out, seq)
	out = append(out, data...)
	return binary.LittleEndian.AppendUint32(out, crc32.ChecksumIEEE(out))
}

// paged is b in pages, each with FF behind.
func paged(b []byte, size int) []string {
	var l []string
	for ; len(b) > size; b = b[size:] {
		l = append(l, string(b[:size]))
	}
	return append(l, string(b)+string(bytes.Repeat([]byte{0xFF}, size-len(b))))
}

// write lays bytes on pages past layer 14.
func write(t *testing.T, d *flash.Device, a api.Addr, b []byte) {
	t.Helper()
	for i, part := range paged(b, d.Shape().Bytes) {
		if e := d.Write(a.Segment, a.Page+i, []byte(part)); e != api.OK {
			t.Fatalf("Write of page %d behind %v: error %d", i, a, e)
		}
	}
}

// entry is a record as it is told.
func entry(a api.Addr, seq uint64, pages int, kind byte, data []byte) api.Entry {
	return api.Entry{At: a, Seq: seq, Pages: pages, Kind: kind, Data: data}
}

// like is whether two records are alike; no Data, nil and empty, are the same.
func like(a, b api.Entry) bool {
	return a.At == b.At && a.Seq == b.Seq && a.Pages == b.Pages && a.Kind == b.Kind && string(a.Data) == string(b.Data)
}

// A look is what is to be seen of a device: the bytes of its used pages, and the places of those that aren't lasting, in the order in which they were written.
type look struct {
	pages map[api.Addr]string
	loose []api.Addr
}

func pagesOf(d *flash.Device) map[api.Addr]string {
	out := map[api.Addr]string{}
	for seg := range d.Shape().Segments {
		for page := range d.Shape().Pages {
			if d.Used(seg, page) {
				b, _ := d.Read(seg, page)
				out[at(seg, page)] = string(b)
			}
		}
	}
	return out
}

func lookAt(d *flash.Device) look {
	x := look{pages: pagesOf(d)}
	none := crash.After(d, plan(0, -1, 0))
	for i := range d.Dirty() {
		// A torn page is kept from page 64 on, too.
		for a := range pagesOf(crash.After(d, plan(0, i, 256))) {
			if !none.Used(a.Segment, a.Page) {
				x.loose = append(x.loose, a)
			}
		}
	}
	return x
}

// stays holds that a device is as it was seen.
func (x look) stays(t *testing.T, d *flash.Device) {
	t.Helper()
	now := lookAt(d)
	if !maps.Equal(now.pages, x.pages) || !slices.Equal(now.loose, x.loose) {
		t.Fatalf("the device has %x, of which %v aren't lasting; want %x, %v", now.pages, now.loose, x.pages, x.loose)
	}
}

// nobodys are devices that nobody made.
func nobodys() []*flash.Device { return []*flash.Device{nil, {}} }

// An independent reading of the layer's calls, page by page.

// there is whether a device has such a page.
func there(d *flash.Device, a api.Addr) bool {
	s := d.Shape()
	return a.Segment >= 0 && a.Segment < s.Segments && a.Page >= 0 && a.Page < s.Pages
}

// takes is how many pages a record takes: one by one.
func takes(n, size int) int {
	pages := 0
	for room := 0; room < n+16; room += size {
		pages++
	}
	return pages
}

// fitsBig reads Fits in numbers that have no end.
func fitsBig(s api.Shape, page, n int) bool {
	if s.Segments < 1 || s.Segments > 16 || s.Pages < 1 || s.Pages > 64 || s.Bytes < 16 || s.Bytes > 256 || n < 0 || n > 4096 || page < 0 {
		return false
	}
	number := func(n int) *big.Int { return big.NewInt(int64(n)) }
	end := new(big.Int).Mul(number(page), number(s.Bytes))
	end.Add(end, number(n+16))
	return end.Cmp(number(s.Pages*s.Bytes)) <= 0
}

func rawOf(d *flash.Device, seg, page int) []byte {
	var out []byte
	for there(d, at(seg, page)) {
		b, _ := d.Read(seg, page)
		out = append(out, b...)
		page++
	}
	return out
}

func recordOf(d *flash.Device, a api.Addr) (api.Entry, api.Errno) {
	if d.Shape() == (api.Shape{}) {
		return api.Entry{}, api.ErrNil
	}
	if !there(d, a) {
		return api.Entry{}, api.ErrRange
	}
	b := rawOf(d, a.Segment, a.Page)
	if b[0] == 0xFF {
		return api.Entry{}, api.ErrEnd
	}
	n := int(binary.BigEndian.Uint16(b[2:]))
	if b[0] != 0xA5 || n > 4096 || len(b) < n+16 {
		return api.Entry{}, api.ErrForm
	}
	seq := binary.BigEndian.Uint64(b[4:])
	if !bytes.Equal(laid(b[1], seq, b[12:12+n]), b[:16+n]) {
		return api.Entry{}, api.ErrSum
	}
	return entry(a, seq, takes(n, d.Shape().Bytes), b[1], b[12:12+n]), api.OK
}

func segmentOf(d *flash.Device, seg int) (uint64, []api.Entry, bool) {
	head, e := recordOf(d, at(seg, 0))
	if e != api.OK || head.Kind != 1 || len(head.Data) != 0 {
		return 0, nil, false
	}
	var l []api.Entry
	for page := 1; ; {
		x, e := recordOf(d, at(seg, page))
		if e != api.OK || x.Kind == 1 || x.Seq != head.Seq {
			return head.Seq, l, true
		}
		l = append(l, x)
		page += x.Pages
	}
}

// fits, raw, read, unread, clean and scanned hold a call against what it must answer.
func fits(t *testing.T, s api.Shape, page, n int, want bool) {
	t.Helper()
	if got := segment.Fits(s, page, n); got != want {
		t.Fatalf("Fits(%v, %d, %d): %v", s, page, n, got)
	}
}

func raw(t *testing.T, d *flash.Device, seg, page int, want []byte) {
	t.Helper()
	if got := segment.Raw(d, seg, page); !bytes.Equal(got, want) {
		t.Fatalf("Raw(%d, %d): %.80x, in all %d; want %.80x, in all %d", seg, page, got, len(got), want, len(want))
	}
}

func read(t *testing.T, d *flash.Device, want api.Entry) {
	t.Helper()
	if got, e := segment.Read(d, want.At); e != api.OK || !like(got, want) {
		t.Fatalf("Read(%v): %.80v, %d; want %.80v", want.At, got, e, want)
	}
}

func unread(t *testing.T, d *flash.Device, a api.Addr, want api.Errno) {
	t.Helper()
	if got, e := segment.Read(d, a); e != want || !like(got, api.Entry{}) {
		t.Fatalf("Read(%v): %.80v, %d; want error %d", a, got, e, want)
	}
}

func clean(t *testing.T, d *flash.Device, seg int, want bool) {
	t.Helper()
	if got := segment.Clean(d, seg); got != want {
		t.Fatalf("Clean(%d): %v", seg, got)
	}
}

func scanned(t *testing.T, d *flash.Device, seg int, seq uint64, want ...api.Entry) {
	t.Helper()
	got, l, is := segment.Scan(d, seg)
	if !is || got != seq || !slices.EqualFunc(l, want, like) {
		t.Fatalf("Scan(%d): %d, %.200v, %v; want %d, %.200v", seg, got, l, is, seq, want)
	}
}

func unscanned(t *testing.T, d *flash.Device, seg int) {
	t.Helper()
	if seq, l, is := segment.Scan(d, seg); is || seq != 0 || len(l) != 0 {
		t.Fatalf("Scan(%d): %d, %.200v, %v; want false", seg, seq, l, is)
	}
}

// segmentAs holds what is told of a segment, also of one that there isn't, against the independent reading.
func segmentAs(t *testing.T, d *flash.Device, seg int) {
	t.Helper()
	used := 0
	for page := -1; page <= d.Shape().Pages; page++ {
		raw(t, d, seg, page, rawOf(d, seg, page))
		if x, e := recordOf(d, at(seg, page)); e == api.OK {
			read(t, d, x)
		} else {
			unread(t, d, at(seg, page), e)
		}
		if d.Used(seg, page) {
			used++
		}
	}
	clean(t, d, seg, there(d, at(seg, 0)) && used == 0)
	if seq, l, is := segmentOf(d, seg); is {
		scanned(t, d, seg, seq, l...)
	} else {
		unscanned(t, d, seg)
	}
}

// allAs holds what is told of a device against the independent reading; and that telling changes nothing.
func allAs(t *testing.T, d *flash.Device) {
	t.Helper()
	was := lookAt(d)
	for seg := -1; seg <= d.Shape().Segments; seg++ {
		segmentAs(t, d, seg)
	}
	was.stays(t, d)
}

// put appends a record, and holds which pages are written, with which bytes, in which order.
func put(t *testing.T, d *flash.Device, a api.Addr, seq uint64, kind byte, data []byte) api.Entry {
	t.Helper()
	want, size := lookAt(d), d.Shape().Bytes
	parts := paged(laid(kind, seq, data), size)
	for i, part := range parts {
		want.pages[at(a.Segment, a.Page+i)] = part
		want.loose = append(want.loose, at(a.Segment, a.Page+i))
	}
	n, e := segment.Append(d, a.Segment, a.Page, seq, kind, data)
	if e != api.OK || n != len(parts) || n != takes(len(data), size) {
		t.Fatalf("Append at %v, %d, %d, %d bytes: %d, %d; want %d pages", a, seq, kind, len(data), n, e, len(parts))
	}
	want.stays(t, d)
	return entry(a, seq, n, kind, data)
}

// refused appends what can't be, and holds that nothing is written.
func refused(t *testing.T, d *flash.Device, a api.Addr, data []byte, want api.Errno) {
	t.Helper()
	was := lookAt(d)
	for _, kind := range []byte{0, 1, 3, 255} {
		if n, e := segment.Append(d, a.Segment, a.Page, 7, kind, data); n != 0 || e != want {
			t.Fatalf("Append at %v, %d bytes: %d, %d; want error %d", a, len(data), n, e, want)
		}
	}
	was.stays(t, d)
}

// start starts a segment, and holds what is written.
func start(t *testing.T, d *flash.Device, seg int, seq uint64) {
	t.Helper()
	want := lookAt(d)
	want.pages[at(seg, 0)] = paged(laid(1, seq, nil), d.Shape().Bytes)[0]
	want.loose = append(want.loose, at(seg, 0))
	if e := segment.Start(d, seg, seq); e != api.OK {
		t.Fatalf("Start(%d, %d): error %d", seg, seq, e)
	}
	want.stays(t, d)
}

func unstarted(t *testing.T, d *flash.Device, seg int, want api.Errno) {
	t.Helper()
	was := lookAt(d)
	if e := segment.Start(d, seg, 7); e != want {
		t.Fatalf("Start(%d): error %d; want %d", seg, e, want)
	}
	was.stays(t, d)
}

// row starts a segment with that number and puts records behind it, of so many bytes each.
func row(t *testing.T, d *flash.Device, seg int, seq uint64, lengths ...int) []api.Entry {
	t.Helper()
	start(t, d, seg, seq)
	var l []api.Entry
	page := 1
	for i, length := range lengths {
		x := put(t, d, at(seg, page), seq, byte(2+i%4), some(length, i+length))
		l = append(l, x)
		page += x.Pages
	}
	return l
}

// P14.1.

func TestFitsByHand(t *testing.T) {
	for _, c := range []struct {
		s       api.Shape
		page, n int
		want    bool
	}{
		{small, 0, 0, true}, {small, 7, 0, true}, {small, 8, 0, false}, {small, 9, 0, false}, {small, -1, 0, false}, {small, 7, 1, false}, {small, 6, 1, true},
		{small, 6, 16, true}, {small, 6, 17, false}, {small, 5, 32, true}, {small, 5, 33, false}, {small, 0, 112, true}, {small, 0, 113, false}, {small, 1, 96, true}, {small, 1, 97, false},
		{small, 0, -1, false}, {small, 0, -16, false}, {small, 0, -17, false}, {small, 7, -1, false}, {small, 8, -1, false}, {small, 8, -16, false},
		{shape(1, 1, 16), 0, 0, true}, {shape(1, 1, 16), 0, 1, false}, {shape(1, 1, 16), 1, 0, false}, {shape(1, 1, 17), 0, 1, true}, {shape(1, 1, 256), 0, 240, true}, {shape(1, 1, 256), 0, 241, false},
		{shape(1, 16, 256), 0, 4080, true}, {shape(1, 16, 256), 0, 4081, false}, {shape(1, 17, 256), 0, 4096, true}, {shape(1, 17, 256), 1, 4096, false}, {shape(1, 17, 256), 1, 4080, true},
		{shape(1, 18, 256), 0, 4096, true}, {shape(1, 18, 256), 1, 4096, true}, {shape(1, 18, 256), 0, 4097, false}, {shape(16, 64, 256), 47, 4096, true}, {shape(16, 64, 256), 48, 4096, false}, {shape(16, 64, 256), 0, 4097, false},
		{shape(16, 64, 256), 0, 16000, false}, {shape(16, 64, 256), 63, 240, true}, {shape(16, 64, 256), 63, 241, false}, {shape(16, 64, 256), 64, 0, false},
		{small, math.MaxInt, 0, false}, {small, math.MinInt, 0, false}, {small, 0, math.MaxInt, false}, {small, 0, math.MinInt, false}, {small, math.MaxInt, math.MaxInt, false}, {small, math.MinInt, math.MinInt, false},
	} {
		fits(t, c.s, c.page, c.n, c.want)
	}
}

// TestFitsEdges: all edges of the page and of the length.
func TestFitsEdges(t *testing.T) {
	for _, s := range shapes() {
		pages := edges()
		for page := -2; page <= 66; page++ {
			pages = append(pages, page)
		}
		for _, page := range pages {
			lengths := edges()
			// just the pages that are left, and one more
			for n := -17; n <= 1; n++ {
				lengths = append(lengths, (s.Pages-page%128)*s.Bytes+n)
			}
			for _, n := range lengths {
				fits(t, s, page, n, fitsBig(s, page, n))
			}
		}
	}
}

// TestFitsEach: each number of pages, with each page of it; the greatest record that has room there, and one more.
func TestFitsEach(t *testing.T) {
	for _, size := range []int{16, 17, 31, 64, 128, 255, 256} {
		for pages := 1; pages <= 64; pages++ {
			s := shape(1+pages%16, pages, size)
			for page := range pages {
				most := min((pages-page)*size-16, 4096)
				fits(t, s, page, most, true)
				fits(t, s, page, most+1, false)
				fits(t, s, page, 0, true)
			}
			fits(t, s, pages, 0, false)
			fits(t, s, pages, -16, false)
		}
	}
}

// TestFitsWrongShape: of a shape that may not be there is no segment.
func TestFitsWrongShape(t *testing.T) {
	for _, s := range wrongShapes() {
		for _, page := range edges() {
			for _, n := range edges() {
				fits(t, s, page, n, false)
			}
		}
	}
}

// TestFitsAsAppend: what Fits is appended to a fresh segment, and nothing else is.
func TestFitsAsAppend(t *testing.T) {
	for _, s := range shapes() {
		fresh := device(t, s)
		for page := range s.Pages {
			for _, n := range []int{0, 1, s.Bytes - 16, s.Bytes - 15, 2*s.Bytes - 16, 2*s.Bytes - 15, (s.Pages-page)*s.Bytes - 16, (s.Pages-page)*s.Bytes - 15, 4095, 4096} {
				if n > 4096 {
					continue
				}
				d := fresh.Copy()
				pages, e := segment.Append(d, s.Segments-1, page, 1, 2, make([]byte, n))
				if !segment.Fits(s, page, n) {
					if e != api.ErrFull || pages != 0 || d.Dirty() != 0 {
						t.Fatalf("%v, page %d, %d bytes: %d, %d", s, page, n, pages, e)
					}
				} else if e != api.OK || pages != takes(n, s.Bytes) || d.Dirty() != pages {
					t.Fatalf("%v, page %d, %d bytes: %d, %d", s, page, n, pages, e)
				}
			}
		}
	}
}

// TestAppendBytes: a record's pages, told by hand.
func TestAppendBytes(t *testing.T) {
	d := device(t, small)
	put(t, d, at(1, 2), 0x0102030405060708, 3, []byte("hello"))
	for page, want := range []string{"", "", "a50300050102030405060708" + "68656c6c", "6f" + "6d1e9ff0" + "ffffffffffffffffffffff"} {
		b, _ := d.Read(1, page)
		if want != "" && hex.EncodeToString(b) != want {
			t.Errorf("page %d: %x; want %s", page, b, want)
		}
		if d.Used(1, page) != (want != "") || d.Used(0, page) {
			t.Errorf("page %d: %v, %v", page, d.Used(1, page), d.Used(0, page))
		}
	}
}

// TestAppendPlaces: at each page of each segment, of no Data, nil and empty, and of as much as there is room for.
func TestAppendPlaces(t *testing.T) {
	for _, s := range shapes()[:7] {
		for seg := range s.Segments {
			for page := range s.Pages {
				most := (s.Pages-page)*s.Bytes - 16
				for _, data := range [][]byte{nil, {}, some(most, page), some(most, page)[:most/2], some(max(most-1, 0), page)} {
					d := device(t, s)
					x := put(t, d, at(seg, page), 5, 3, data)
					read(t, d, x)
					allAs(t, d)
				}
				refused(t, device(t, s), at(seg, page), some(most+1, page), api.ErrFull)
			}
		}
	}
}

// TestAppendGreatest: Data of 4,095 and 4,096 bytes, with just the pages that they take, and with more.
func TestAppendGreatest(t *testing.T) {
	for _, n := range []int{4079, 4080, 4081, 4095, 4096} {
		d := device(t, shape(2, 64, 256))
		for _, a := range []api.Addr{at(1, 0), at(0, 64-takes(n, 256)), at(1, 64-takes(n, 256)), at(0, 3)} {
			read(t, d, put(t, d, a, math.MaxUint64, 255, some(n, n)))
		}
		allAs(t, d)
		refused(t, device(t, shape(2, 64, 256)), at(0, 65-takes(n, 256)), some(n, n), api.ErrFull)
		refused(t, device(t, shape(2, takes(n, 65)-1, 65)), at(0, 0), some(n, n), api.ErrFull)
	}
}

// TestAppendKinds: each kind, and numbers of many kinds.
func TestAppendKinds(t *testing.T) {
	seqs := []uint64{0, 1, 2, 255, 256, 0xA5, 1 << 31, 1 << 32, 1 << 63, math.MaxInt64, math.MaxUint64 - 1, math.MaxUint64}
	for kind := range 256 {
		d := device(t, small)
		for i, data := range [][]byte{nil, []byte("a"), some(17, kind)} {
			read(t, d, put(t, d, at(kind%2, 2*i), seqs[(kind+i)%len(seqs)], byte(kind), data))
		}
	}
	for _, seq := range seqs {
		for kind := range 6 {
			d := device(t, small)
			read(t, d, put(t, d, at(0, 0), seq, byte(kind), nil))
			read(t, d, put(t, d, at(0, 1), seq, byte(kind), []byte("abc")))
			allAs(t, d)
		}
	}
}

// TestNoDevice: devices that nobody made, with all places.
func TestNoDevice(t *testing.T) {
	for _, d := range nobodys() {
		for _, seg := range edges() {
			unstarted(t, d, seg, api.ErrNil)
			clean(t, d, seg, false)
			unscanned(t, d, seg)
			for _, page := range edges() {
				raw(t, d, seg, page, nil)
				unread(t, d, at(seg, page), api.ErrNil)
				for _, n := range []int{0, 5, 4096, 4097} {
					if got, e := segment.Append(d, seg, page, 1, 2, make([]byte, n)); got != 0 || e != api.ErrNil {
						t.Fatalf("Append at %d, %d, %d bytes: %d, %d", seg, page, n, got, e)
					}
				}
			}
		}
	}
}

// TestNoPlace: segments and pages that there aren't, with Data of all kinds.
func TestNoPlace(t *testing.T) {
	for _, s := range []api.Shape{shape(1, 1, 16), small, shape(16, 64, 256)} {
		d := device(t, s)
		row(t, d, s.Segments-1, 3)
		was := lookAt(d)
		for _, seg := range append(edges(), s.Segments-1, s.Segments, s.Segments+1) {
			for _, page := range append(edges(), s.Pages-1, s.Pages, s.Pages+1) {
				if there(d, at(seg, page)) {
					continue
				}
				raw(t, d, seg, page, nil)
				unread(t, d, at(seg, page), api.ErrRange)
				for _, n := range []int{0, 5, 4096, 4097} {
					if got, e := segment.Append(d, seg, page, 1, 2, make([]byte, n)); got != 0 || e != api.ErrRange {
						t.Fatalf("Append at %d, %d, %d bytes: %d, %d", seg, page, n, got, e)
					}
				}
			}
			if seg < 0 || seg >= s.Segments {
				if e := segment.Start(d, seg, 1); e != api.ErrRange {
					t.Fatalf("Start(%d): error %d", seg, e)
				}
				clean(t, d, seg, false)
				unscanned(t, d, seg)
			}
		}
		was.stays(t, d)
	}
}

// TestAppendUsed: each page of a record, alone, is used; one that is ahead of it, or behind it, doesn't matter.
func TestAppendUsed(t *testing.T) {
	for n := range 4 {
		data := some(16*n, n)
		for from := 0; from+n < 8; from++ {
			for used := range 8 {
				d := device(t, small)
				write(t, d, at(1, used), []byte{0xFF})
				if from <= used && used <= from+n {
					refused(t, d, at(1, from), data, api.ErrUsed)
				} else {
					read(t, d, put(t, d, at(1, from), 7, 3, data))
				}
				read(t, d, put(t, d, at(0, from), 7, 3, data))
			}
		}
	}
}

// TestAppendUsedByRecords: pages of another record, lasting or not, and pages that a crash kept; erased ones are free again.
func TestAppendUsedByRecords(t *testing.T) {
	d := device(t, small)
	row(t, d, 0, 7, 20, 0)
	for range 2 {
		for _, c := range []struct {
			page, n int
			want    api.Errno
		}{{0, 0, api.ErrUsed}, {1, 0, api.ErrUsed}, {2, 0, api.ErrUsed}, {3, 0, api.ErrUsed}, {4, 0, api.ErrUsed}, {0, 112, api.ErrUsed}, {4, 48, api.ErrUsed}, {4, 49, api.ErrFull}, {0, 113, api.ErrFull}, {5, 33, api.ErrFull}} {
			refused(t, d, at(0, c.page), make([]byte, c.n), c.want)
		}
		d.Sync()
	}
	d.Erase(0)
	row(t, d, 0, 8, 40, 20)
	d.Crash(plan(1<<4, 2, 3))
	refused(t, d, at(0, 1), some(20, 1), api.ErrUsed)
	refused(t, d, at(0, 2), nil, api.ErrUsed)
	refused(t, d, at(0, 3), some(20, 1), api.ErrUsed)
	read(t, d, put(t, d, at(0, 1), 7, 3, nil))
	read(t, d, put(t, d, at(0, 3), 7, 3, nil))
	read(t, d, put(t, d, at(0, 5), 7, 3, some(32, 1)))
	allAs(t, d)
}

// TestAppendWhichFirst: where more errors than one would do, the one that is named first.
func TestAppendWhichFirst(t *testing.T) {
	long := make([]byte, 4097)
	for _, s := range shapes() {
		d := device(t, s)
		for _, data := range [][]byte{nil, make([]byte, 4096), long, make([]byte, 5000)} {
			for _, a := range []api.Addr{at(-1, 0), at(s.Segments, 0), at(0, -1), at(0, s.Pages), at(-1, -1), at(s.Segments, s.Pages), at(math.MaxInt, 0), at(0, math.MinInt)} {
				refused(t, d, a, data, api.ErrRange)
			}
		}
		for range 2 {
			// It wouldn't fit, if it weren't too long; the second time pages are used, too.
			for _, page := range []int{0, s.Pages / 2, s.Pages - 1} {
				refused(t, d, at(0, page), long, api.ErrLong)
				refused(t, d, at(0, page), make([]byte, 70000), api.ErrLong)
				if n := (s.Pages-page)*s.Bytes - 15; n <= 4096 {
					refused(t, d, at(0, page), make([]byte, n), api.ErrFull)
				}
			}
			for page := range s.Pages {
				d.Write(0, page, nil)
			}
		}
		refused(t, d, at(0, 0), nil, api.ErrUsed)
		refused(t, d, at(0, s.Pages-1), nil, api.ErrUsed)
	}
}

func TestStart(t *testing.T) {
	for _, s := range shapes() {
		for _, seq := range []uint64{0, 1, 7, 0x0102030405060708, 1 << 63, math.MaxUint64} {
			d := device(t, s)
			start(t, d, s.Segments-1, seq)
			scanned(t, d, s.Segments-1, seq)
			read(t, d, entry(at(s.Segments-1, 0), seq, 1, 1, nil))
			unstarted(t, d, s.Segments-1, api.ErrUsed)
			unstarted(t, d, s.Segments, api.ErrRange)
			unstarted(t, d, -1, api.ErrRange)
			d.Erase(s.Segments - 1)
			start(t, d, s.Segments-1, seq+1)
			scanned(t, d, s.Segments-1, seq+1)
		}
	}
}

// TestStartBytes: a head, told by hand.
func TestStartBytes(t *testing.T) {
	d := device(t, shape(1, 2, 17))
	start(t, d, 0, 7)
	if b, _ := d.Read(0, 0); hex.EncodeToString(b) != "a50100000000000000000007044f6ac4ff" {
		t.Errorf("%x", b)
	}
}

// TestStartUsed: something at page 0, whatever it is, is in the way; something behind it isn't.
func TestStartUsed(t *testing.T) {
	for _, b := range [][]byte{nil, {0xFF}, {0}, laid(1, 7, nil), laid(2, 7, nil)} {
		d := device(t, small)
		write(t, d, at(0, 0), b)
		unstarted(t, d, 0, api.ErrUsed)
		start(t, d, 1, 7)
	}
	for page := 1; page < 8; page++ {
		d := device(t, small)
		x := put(t, d, at(0, page), 7, 3, nil)
		start(t, d, 0, 7)
		if page == 1 {
			scanned(t, d, 0, 7, x)
		} else {
			scanned(t, d, 0, 7)
		}
		unstarted(t, d, 0, api.ErrUsed)
	}
}

// P14.2.

func TestRaw(t *testing.T) {
	ff := func(n int) []byte { return bytes.Repeat([]byte{0xFF}, n) }
	for _, s := range shapes() {
		d := device(t, s)
		raw(t, d, 0, 0, ff(s.Pages*s.Bytes))
		raw(t, d, s.Segments-1, s.Pages-1, ff(s.Bytes))
		raw(t, d, 0, s.Pages, nil)
		raw(t, d, 0, -1, nil)
		raw(t, d, s.Segments, 0, nil)
		raw(t, d, -1, 0, nil)
		d.Write(0, s.Pages-1, []byte("abc"))
		raw(t, d, 0, s.Pages-1, append([]byte("abc"), ff(s.Bytes-3)...))
		raw(t, d, 0, 0, append(append(ff((s.Pages-1)*s.Bytes), "abc"...), ff(s.Bytes-3)...))
		if s.Segments > 1 {
			// What stands in the next segment is none of it.
			raw(t, d, 1, 0, ff(s.Pages*s.Bytes))
		}
		allAs(t, d)
	}
	d := device(t, shape(2, 3, 16))
	d.Write(0, 0, []byte("0123456789abcdef"))
	d.Write(0, 2, []byte("xyz"))
	d.Write(1, 0, []byte("another one"))
	raw(t, d, 0, 0, append([]byte("0123456789abcdef"), append(append(ff(16), "xyz"...), ff(13)...)...))
	raw(t, d, 0, 1, append(append(ff(16), "xyz"...), ff(13)...))
	raw(t, d, 0, 2, append([]byte("xyz"), ff(13)...))
	raw(t, d, 1, 1, ff(32))
}

// TestReadPlaces: where a record begins, within one, where nothing was written, behind all.
func TestReadPlaces(t *testing.T) {
	d := device(t, small)
	l := row(t, d, 1, 9, 17, 0, 1)
	read(t, d, entry(at(1, 0), 9, 1, 1, nil))
	for i, page := range []int{1, 4, 5} {
		read(t, d, l[i])
		if l[i].At != at(1, page) {
			t.Fatalf("%v", l)
		}
	}
	unread(t, d, at(1, 2), api.ErrForm)
	unread(t, d, at(1, 3), api.ErrForm)
	unread(t, d, at(1, 7), api.ErrEnd)
	unread(t, d, at(1, 8), api.ErrRange)
	unread(t, d, at(0, 0), api.ErrEnd)
	unread(t, d, at(0, 7), api.ErrEnd)
	// A page that has FF alone is used, and none the less the end.
	write(t, d, at(0, 0), nil)
	unread(t, d, at(0, 0), api.ErrEnd)
	// a record within a record
	within := append(make([]byte, 4), laid(5, 6, []byte("within"))...)
	x := put(t, d, at(0, 2), 9, 3, within)
	read(t, d, x)
	read(t, d, entry(at(0, 3), 6, 2, 5, []byte("within")))
	allAs(t, d)
}

// TestReadSpoilt: a record of which a page is gone or torn, or of which a byte is another one.
func TestReadSpoilt(t *testing.T) {
	for _, s := range []api.Shape{small, shape(2, 5, 31), shape(1, 3, 64)} {
		b := laid(3, 0x0102030405060708, some(40, 2))
		pages := len(paged(b, s.Bytes))
		for gone := range pages {
			for cut := range s.Bytes + 1 {
				d := device(t, s)
				x := put(t, d, at(0, 1), 0x0102030405060708, 3, some(40, 2))
				d.Crash(plan(math.MaxUint64, gone, cut))
				switch left := min(cut, len(b)-gone*s.Bytes); {
				case left == min(s.Bytes, len(b)-gone*s.Bytes):
					read(t, d, x)
				case gone == 0 && cut == 0:
					unread(t, d, at(0, 1), api.ErrEnd)
				case gone == 0 && cut <= 3:
					unread(t, d, at(0, 1), api.ErrForm) // the length's bytes are FF
				default:
					unread(t, d, at(0, 1), api.ErrSum)
				}
				allAs(t, d)
			}
		}
		for i := range b {
			for bit := range 8 {
				c := bytes.Clone(b)
				c[i] ^= 1 << bit
				d := device(t, s)
				write(t, d, at(0, 1), c)
				if _, e := segment.Read(d, at(0, 1)); e != api.ErrSum && (i > 3 || e != api.ErrForm) {
					t.Fatalf("byte %d, bit %d: error %d", i, bit, e)
				}
				segmentAs(t, d, 0)
			}
		}
	}
}

// TestReadTail: what is behind a record, on its last page and on others, plays no part.
func TestReadTail(t *testing.T) {
	for length := range 40 {
		b := laid(4, 7, some(length, 1))
		room := 5*16 - len(b)
		for _, behind := range [][]byte{make([]byte, room), some(room, 9), append(laid(1, 1, nil), some(room, 1)...)[:room], b[:min(room, len(b))]} {
			d := device(t, small)
			write(t, d, at(0, 3), append(bytes.Clone(b), behind...))
			read(t, d, entry(at(0, 3), 7, takes(length, 16), 4, some(length, 1)))
			segmentAs(t, d, 0)
		}
	}
}

// TestReadAtEnd: a record that ends with the segment; one whose rest would be in the next one, or behind the device.
func TestReadAtEnd(t *testing.T) {
	for length := range 97 {
		b := laid(3, 7, some(length, 1))
		from := 8 - takes(length, 16)
		for seg := range 2 {
			d := device(t, small)
			read(t, d, put(t, d, at(seg, from), 7, 3, some(length, 1)))
			allAs(t, d)
			if from == 7 {
				continue
			}
			d = device(t, small)
			pages := paged(b, 16)
			for i, part := range pages[:len(pages)-1] {
				write(t, d, at(seg, from+1+i), []byte(part))
			}
			if seg == 0 {
				write(t, d, at(1, 0), []byte(pages[len(pages)-1]))
			}
			unread(t, d, at(seg, from+1), api.ErrForm)
			allAs(t, d)
		}
	}
}

func TestClean(t *testing.T) {
	for _, s := range shapes() {
		d := device(t, s)
		for seg := range s.Segments {
			clean(t, d, seg, true)
		}
		clean(t, d, -1, false)
		clean(t, d, s.Segments, false)
		for page := range s.Pages {
			d.Write(s.Segments-1, page, nil)
			for seg := range s.Segments {
				clean(t, d, seg, seg != s.Segments-1)
			}
			d.Sync()
			clean(t, d, s.Segments-1, false)
			d.Erase(s.Segments - 1)
			clean(t, d, s.Segments-1, true)
			// A page that a crash took is erased again.
			d.Write(s.Segments-1, page, []byte("abc"))
			clean(t, d, s.Segments-1, false)
			clean(t, crash.After(d, plan(1, -1, 0)), s.Segments-1, false)
			clean(t, crash.After(d, plan(1, 0, 1)), s.Segments-1, false)
			d.Crash(plan(0, -1, 0))
			clean(t, d, s.Segments-1, true)
		}
	}
}

// P14.3.

func TestScanByHand(t *testing.T) {
	d := device(t, small)
	unscanned(t, d, 0)
	l := row(t, d, 0, 7)
	scanned(t, d, 0, 7)
	d = device(t, small)
	l = row(t, d, 0, 7, 5)
	scanned(t, d, 0, 7, entry(at(0, 1), 7, 2, 2, l[0].Data))
	d = device(t, small)
	l = row(t, d, 1, 7, 5, 0, 20, 0)
	scanned(t, d, 1, 7, entry(at(1, 1), 7, 2, 2, l[0].Data), entry(at(1, 3), 7, 1, 3, nil), entry(at(1, 4), 7, 3, 4, l[2].Data), entry(at(1, 7), 7, 1, 5, nil))
	unscanned(t, d, 0)
	unscanned(t, d, -1)
	unscanned(t, d, 2)
}

// TestScanHead: what may stand at page 0, with a right record behind it.
func TestScanHead(t *testing.T) {
	for _, seq := range []uint64{0, 1, 7, 255, 256, 1 << 32, 1 << 63, math.MaxUint64} {
		for kind := range 256 {
			for _, data := range [][]byte{nil, {}, {0}, some(1, 1), some(16, 1), some(17, 1)} {
				d := device(t, small)
				head := put(t, d, at(0, 0), seq, byte(kind), data)
				x := put(t, d, at(0, head.Pages), seq, 3, []byte("behind"))
				if kind == 1 && len(data) == 0 {
					scanned(t, d, 0, seq, x)
				} else {
					unscanned(t, d, 0)
				}
			}
		}
	}
}

// TestScanHeadSpoilt: of a head nothing may be gone, and nothing may be another byte; nothing is told without one.
func TestScanHeadSpoilt(t *testing.T) {
	for _, size := range []int{16, 20} {
		s := shape(1, 8, size)
		for cut := range size + 1 {
			d := device(t, s)
			l := row(t, d, 0, 7, 5, 0)
			d.Crash(plan(math.MaxUint64, 0, cut))
			if cut >= 16 {
				scanned(t, d, 0, 7, l...)
			} else {
				unscanned(t, d, 0)
			}
		}
		for i := range 16 {
			d := device(t, s)
			b := laid(1, 7, nil)
			b[i] ^= 0x10
			write(t, d, at(0, 0), b)
			put(t, d, at(0, 1), 7, 3, nil)
			unscanned(t, d, 0)
		}
	}
	d := device(t, small)
	put(t, d, at(0, 1), 7, 1, nil)
	put(t, d, at(0, 2), 7, 2, nil)
	unscanned(t, d, 0)
}

// TestScanStops: what ends a row, at each place of it; the right records behind that aren't told.
func TestScanStops(t *testing.T) {
	spoilt := laid(3, 7, []byte("ab"))
	spoilt[13] ^= 1
	stops := []func(d *flash.Device, a api.Addr){
		func(d *flash.Device, a api.Addr) { put(t, d, a, 8, 3, []byte("ab")) },
		func(d *flash.Device, a api.Addr) { put(t, d, a, 6, 3, nil) },
		func(d *flash.Device, a api.Addr) { put(t, d, a, 1<<32+7, 3, nil) },
		func(d *flash.Device, a api.Addr) { put(t, d, a, 1<<63+7, 3, []byte("ab")) },
		func(d *flash.Device, a api.Addr) { put(t, d, a, 7, 1, nil) },
		func(d *flash.Device, a api.Addr) { put(t, d, a, 7, 1, []byte("ab")) },
		func(d *flash.Device, a api.Addr) { put(t, d, a, 8, 1, nil) },
		func(d *flash.Device, a api.Addr) { write(t, d, a, spoilt) },
		func(d *flash.Device, a api.Addr) { write(t, d, a, spoilt[:15]) },
		func(d *flash.Device, a api.Addr) { write(t, d, a, []byte("no record")) },
		func(d *flash.Device, a api.Addr) { write(t, d, a, nil) },
		func(d *flash.Device, a api.Addr) {},
	}
	for _, stop := range stops {
		for ahead := range 4 {
			d := device(t, shape(1, 20, 16))
			l := row(t, d, 0, 7, []int{3, 0, 30}[:ahead]...)
			page := 1
			for _, x := range l {
				page += x.Pages
			}
			stop(d, at(0, page))
			used := 1
			for d.Used(0, page+used) {
				used++
			}
			for k := range 3 {
				put(t, d, at(0, page+used+k), 7, 2, nil)
			}
			scanned(t, d, 0, 7, l...)
			allAs(t, d)
		}
	}
}

// TestScanKinds: each kind but a head's is a record's.
func TestScanKinds(t *testing.T) {
	for kind := range 256 {
		d := device(t, small)
		start(t, d, 0, 0)
		x := put(t, d, at(0, 1), 0, byte(kind), nil)
		y := put(t, d, at(0, 2), 0, byte(kind), []byte("abc"))
		if kind == 1 {
			scanned(t, d, 0, 0)
		} else {
			scanned(t, d, 0, 0, x, y)
		}
	}
}

// TestScanFull: a segment all of whose pages are taken, by records of a page each, by one alone, and by many.
func TestScanFull(t *testing.T) {
	for _, s := range []api.Shape{small, shape(1, 64, 16), shape(3, 64, 20), shape(1, 18, 256)} {
		for most := 1; most < s.Pages; most++ {
			var lengths []int
			for left := s.Pages - 1; left > 0; {
				pages := min(most, left)
				lengths = append(lengths, min(pages*s.Bytes-16, 4096))
				left -= pages
			}
			if len(lengths) > 20 && most > 1 {
				continue
			}
			d := device(t, s)
			l := row(t, d, s.Segments-1, 7, lengths...)
			scanned(t, d, s.Segments-1, 7, l...)
			refused(t, d, at(s.Segments-1, s.Pages-1), nil, api.ErrUsed)
		}
	}
}

// TestScanOne: one segment's records alone are told, also where the next one goes on with the same number.
func TestScanOne(t *testing.T) {
	d := device(t, shape(3, 4, 16))
	first := row(t, d, 0, 7, 32)
	put(t, d, at(1, 0), 7, 3, nil)
	third := row(t, d, 2, 7, 0, 0)
	scanned(t, d, 0, 7, first...)
	unscanned(t, d, 1)
	scanned(t, d, 2, 7, third...)
	d.Erase(0)
	unscanned(t, d, 0)
	scanned(t, d, 2, 7, third...)
	scanned(t, d, 0, 8, row(t, d, 0, 8, 1)...)
}

// P14.4.

// behindCrash is what must be told behind a crash of what was told ahead: the first records of which all pages have the bytes that they had; ok: the head has.
func behindCrash(was, is *flash.Device, seg int, l []api.Entry) (left []api.Entry, ok bool) {
	whole := func(x api.Entry) bool {
		for i := range x.Pages {
			a, _ := was.Read(seg, x.At.Page+i)
			b, _ := is.Read(seg, x.At.Page+i)
			if !bytes.Equal(a, b) {
				return false
			}
		}
		return true
	}
	if !whole(entry(at(seg, 0), 0, 1, 1, nil)) {
		return nil, false
	}
	for n, x := range l {
		if !whole(x) {
			return l[:n], true
		}
	}
	return l, true
}

// crashes holds that behind a crash just the first ones are told of what was, and at least so many.
func crashes(t *testing.T, d *flash.Device, p api.Plan, seg int, seq uint64, l []api.Entry, synced int) {
	t.Helper()
	c := crash.After(d, p)
	left, is := behindCrash(d, c, seg, l)
	if synced >= 0 && !is || len(left) < synced {
		t.Fatalf("%v: %d records are lasting, and %d are there", p, synced, len(left))
	}
	if !is {
		unscanned(t, c, seg)
	} else {
		scanned(t, c, seg, seq, left...)
	}
	for i, x := range l {
		if i < len(left) {
			read(t, c, x)
		}
	}
}

// splits are all rows of numbers from 1 to 3 that are together n at the most.
func splits(n int) [][]int {
	l := [][]int{nil}
	for first := 1; first <= min(n, 3); first++ {
		for _, rest := range splits(n - first) {
			l = append(l, append([]int{first}, rest...))
		}
	}
	return l
}

// TestCrashEach: all rows of records with up to five pages together, with a Sync behind each of them (or the head, or nowhere), and each plan.
func TestCrashEach(t *testing.T) {
	s := shape(2, 6, 16)
	for _, split := range splits(5) {
		lengths := make([]int, len(split))
		for i, pages := range split {
			lengths[i] = max(16*pages-16-i%5, 0)
		}
		for synced := -1; synced <= len(split); synced++ {
			d := device(t, s)
			l := syncedRow(t, d, 7, lengths, synced)
			scanned(t, d, 1, 7, l...)
			for p := range crash.All(d.Dirty()) {
				crashes(t, d, p, 1, 7, l, synced)
			}
			for _, cut := range []int{1, 9, 15} {
				for p := range crash.Torn(d.Dirty(), cut) {
					crashes(t, d, p, 1, 7, l, synced)
				}
			}
		}
	}
}

// syncedRow starts segment 1 and puts records behind it, with a Sync behind so many of them (0: behind the head; -1: nowhere).
func syncedRow(t *testing.T, d *flash.Device, seq uint64, lengths []int, synced int) []api.Entry {
	t.Helper()
	if e := segment.Start(d, 1, seq); e != api.OK {
		t.Fatalf("Start: error %d", e)
	}
	var l []api.Entry
	page := 1
	for i := 0; ; i++ {
		if i == synced {
			d.Sync()
		}
		if i == len(lengths) {
			return l
		}
		data := some(lengths[i], i+3)
		n, e := segment.Append(d, 1, page, seq, byte(2+i%4), data)
		if e != api.OK {
			t.Fatalf("Append of %d bytes at %d: error %d", lengths[i], page, e)
		}
		l = append(l, entry(at(1, page), seq, n, byte(2+i%4), data))
		page += n
	}
}

// TestCrashCuts: one record, each of its pages torn behind each number of bytes.
func TestCrashCuts(t *testing.T) {
	for _, s := range []api.Shape{small, shape(2, 8, 21), shape(2, 8, 64)} {
		for _, length := range []int{0, 1, 10, 30, 60} {
			d := device(t, s)
			l := syncedRow(t, d, 7, []int{0, length, 0}, 0)
			for torn := range d.Dirty() {
				for cut := -1; cut <= s.Bytes+1; cut++ {
					crashes(t, d, plan(math.MaxUint64, torn, cut), 1, 7, l, 0)
				}
			}
		}
	}
}

// TestCrashOfErased: a part that was lost and that was FF is no loss: the record is told, and what is behind it.
func TestCrashOfErased(t *testing.T) {
	seed := 0
	for b := laid(2, 7, some(17, seed)); b[32] != 0xFF; b = laid(2, 7, some(17, seed)) {
		seed++
	}
	d := device(t, small)
	start(t, d, 0, 7)
	x := put(t, d, at(0, 1), 7, 2, some(17, seed))
	y := put(t, d, at(0, 4), 7, 3, nil)
	z := put(t, d, at(0, 5), 7, 3, bytes.Repeat([]byte{0xFF}, 20))
	d.Crash(plan(math.MaxUint64, 3, 0))
	if d.Used(0, 3) {
		t.Fatal("the page is kept")
	}
	scanned(t, d, 0, 7, x, y, z)
	// Nobody has written to that page, so it is free.
	put(t, d, at(0, 3), 7, 5, nil)
	scanned(t, d, 0, 7)
	allAs(t, d)
}

// TestCrashRows: long rows on great devices, in two segments turn by turn, with a Sync now and then, and all kinds of plans, one behind the other.
func TestCrashRows(t *testing.T) {
	told := 0
	for seed := range 24 {
		x := seeded(seed)
		s := shape(2, 8+x.next(57), 16+x.next(241))
		d := device(t, s)
		var l [2][]api.Entry
		page, synced, seqs := [2]int{1, 1}, [2]int{-1, -1}, [2]uint64{uint64(x.next(3)), math.MaxUint64 - uint64(x.next(2))}
		segment.Start(d, 0, seqs[0])
		segment.Start(d, 1, seqs[1])
		for range 60 {
			seg := x.next(2)
			data := some(x.next(1+x.next(min(4*s.Bytes, 4096))), x.next(1000))
			n, e := segment.Append(d, seg, page[seg], seqs[seg], byte(2+x.next(4)), data)
			if e == api.ErrFull || page[seg] == s.Pages {
				continue
			}
			r, _ := recordOf(d, at(seg, page[seg]))
			if e != api.OK || string(r.Data) != string(data) || r.Seq != seqs[seg] || r.Pages != n {
				t.Fatalf("%d: %d, %v", seed, e, r)
			}
			l[seg] = append(l[seg], r)
			page[seg] += n
			if x.next(9) == 0 {
				d.Sync()
				synced = [2]int{len(l[0]), len(l[1])}
			}
		}
		for range 50 {
			p := plan(^uint64(0)&^(1<<x.next(64))&^(1<<x.next(64)), x.next(d.Dirty()+2)-1, x.next(300)-20)
			if x.next(3) == 0 {
				p.Keep = uint64(x.next(1<<31))<<33 | uint64(x.next(1<<33))
			}
			for seg := range 2 {
				crashes(t, d, p, seg, seqs[seg], l[seg], synced[seg])
				left, _ := behindCrash(d, crash.After(d, p), seg, l[seg])
				told += len(left)
			}
		}
	}
	if told < 2000 {
		t.Errorf("%d records were told in all", told)
	}
}

// appendAs appends, and holds the answer and the device against an independent reading.
func appendAs(t *testing.T, d *flash.Device, a api.Addr, seq uint64, kind byte, data []byte) {
	t.Helper()
	free := true
	for i := range takes(len(data), d.Shape().Bytes) {
		free = free && !d.Used(a.Segment, a.Page+i)
	}
	switch {
	case !there(d, a):
		refused(t, d, a, data, api.ErrRange)
	case len(data) > 4096:
		refused(t, d, a, data, api.ErrLong)
	case !fitsBig(d.Shape(), a.Page, len(data)):
		refused(t, d, a, data, api.ErrFull)
	case !free:
		refused(t, d, a, data, api.ErrUsed)
	default:
		put(t, d, a, seq, kind, data)
	}
}

// TestPlays: deeds of all kinds, one behind the other; all that is told is held against the independent reading, and a crash against what was told ahead of it.
func TestPlays(t *testing.T) {
	for seed := range 120 {
		x := seeded(seed + 1000)
		s := shape(1+x.next(3), 1+x.next(9), 16+x.next(20))
		d := device(t, s)
		for range 60 {
			seg, page := x.next(s.Segments+2)-1, x.next(s.Pages+3)-1
			seq, kind := uint64(x.next(2)), byte(1+x.next(3))
			if now, l, is := segmentOf(d, seg); is && x.next(4) > 0 {
				// behind what is told, with its number
				seq, page = now, 1
				for _, r := range l {
					page += r.Pages
				}
			}
			switch x.next(12) {
			case 0:
				d.Erase(seg)
			case 1:
				d.Sync()
			case 2:
				c := crash.After(d, plan(uint64(x.next(1<<40)), x.next(12)-1, x.next(40)))
				for seg := range s.Segments {
					_, was, _ := segmentOf(d, seg)
					if _, l, is := segment.Scan(c, seg); is && (len(l) > len(was) || !slices.EqualFunc(l, was[:len(l)], like)) {
						t.Fatalf("%v were told, and behind a crash %v", was, l)
					}
				}
				d = c
			case 3, 4:
				if d.Used(seg, 0) {
					unstarted(t, d, seg, api.ErrUsed)
				} else if there(d, at(seg, 0)) {
					start(t, d, seg, seq)
				} else {
					unstarted(t, d, seg, api.ErrRange)
				}
			default:
				appendAs(t, d, at(seg, page), seq, kind, some(x.next(1+x.next(60)), x.next(100)))
			}
			allAs(t, d)
		}
	}
}

// P2, P3: what is whose.

// spoil overwrites all of b, and what its memory has behind its length.
func spoil(b []byte) {
	for i := range b[:cap(b)] {
		b[:cap(b)][i] = '!'
	}
}

// blank is whether what b's memory has behind its length is noughts alone.
func blank(b []byte) bool {
	behind := b[len(b):cap(b)]
	return bytes.Equal(behind, make([]byte, len(behind)))
}

// TestAppendOwnMemory: Data stays as it is, and what is behind its length; the device doesn't change with it.
func TestAppendOwnMemory(t *testing.T) {
	for length := range 40 {
		d := device(t, small)
		memory := some(60, 1)
		x := put(t, d, at(0, 1), 7, 3, memory[:length])
		refused(t, d, at(0, 1), memory[:length], api.ErrUsed)
		refused(t, d, at(0, 7), memory[:length+1], api.ErrFull)
		if !bytes.Equal(memory, some(60, 1)) {
			t.Fatalf("%d: Data was changed", length)
		}
		was := lookAt(d)
		spoil(memory)
		was.stays(t, d)
		x.Data = some(60, 1)[:length]
		read(t, d, x)
	}
	memory := some(5000, 1)
	d := device(t, shape(1, 64, 256))
	refused(t, d, at(0, 0), memory[:4097], api.ErrLong)
	put(t, d, at(0, 0), 7, 3, memory[:4096])
	if !bytes.Equal(memory, some(5000, 1)) {
		t.Errorf("Data was changed")
	}
}

// TestToldOwnMemory: what is told shares no memory with the device, with what else is told, or with another answer.
func TestToldOwnMemory(t *testing.T) {
	d := device(t, shape(1, 20, 16))
	want := row(t, d, 0, 7, 5, 0, 30, 17, 16, 33)
	was := lookAt(d)
	whole := rawOf(d, 0, 0)

	first, second := segment.Raw(d, 0, 0), segment.Raw(d, 0, 0)
	if !blank(first) {
		t.Errorf("behind what Raw told: %x", first[:cap(first)])
	}
	spoil(first)
	if !bytes.Equal(second, whole) {
		t.Errorf("Raw's answers share memory")
	}
	for _, x := range want {
		a, _ := segment.Read(d, x.At)
		b, _ := segment.Read(d, x.At)
		if !blank(a.Data) {
			t.Errorf("behind what Read told: %x", a.Data[:cap(a.Data)])
		}
		spoil(a.Data)
		if !like(b, x) {
			t.Errorf("Read's answers share memory: %v", b)
		}
	}
	_, l, _ := segment.Scan(d, 0)
	_, other, _ := segment.Scan(d, 0)
	for i := range l {
		if !blank(l[i].Data) {
			t.Errorf("behind what Scan told: %x", l[i].Data[:cap(l[i].Data)])
		}
		spoil(l[i].Data)
		if !slices.EqualFunc(l[i+1:], want[i+1:], like) || !slices.EqualFunc(other, want, like) {
			t.Errorf("Scan's records share memory")
		}
	}
	for _, x := range l[len(l):cap(l)] {
		if !like(x, api.Entry{}) {
			t.Errorf("behind what Scan told: %v", x)
		}
	}
	for i := range l {
		l[i] = entry(at(9, 9), 9, 9, 9, nil)
	}
	if !slices.EqualFunc(other, want, like) {
		t.Errorf("Scan's answers share memory")
	}
	was.stays(t, d)
	scanned(t, d, 0, 7, want...)
	// What was told stays as it was, whatever becomes of the device.
	d.Erase(0)
	write(t, d, at(0, 0), whole[:16*18])
	d.Crash(plan(0x2A, -1, 0))
	if !slices.EqualFunc(other, want, like) || !bytes.Equal(second, whole) {
		t.Errorf("what was told changes with the device")
	}
}

// TestCopies: a device and its copy go their own ways.
func TestCopies(t *testing.T) {
	d := device(t, small)
	l := row(t, d, 0, 7, 5)
	c := d.Copy()
	x := put(t, c, at(0, 3), 7, 3, []byte("copy"))
	y := put(t, d, at(0, 3), 7, 4, nil)
	scanned(t, c, 0, 7, l[0], x)
	scanned(t, d, 0, 7, l[0], y)
	c.Erase(0)
	unscanned(t, c, 0)
	scanned(t, d, 0, 7, l[0], y)
}

// TestSameAnswers: an answer hangs on the arguments and the device alone, not on the calls ahead of it.
func TestSameAnswers(t *testing.T) {
	d := device(t, small)
	l := row(t, d, 0, 7, 5, 0)
	for range 3 {
		refused(t, d, at(0, 3), nil, api.ErrUsed)
		unread(t, d, at(0, 5), api.ErrEnd)
		unread(t, d, at(2, 0), api.ErrRange)
		unread(t, nil, at(0, 0), api.ErrNil)
		read(t, d, l[0])
		scanned(t, d, 0, 7, l...)
		unscanned(t, d, 1)
		clean(t, d, 1, true)
		clean(t, d, 0, false)
		fits(t, small, 6, 16, true)
		fits(t, small, 6, 17, false)
		raw(t, d, 1, 7, bytes.Repeat([]byte{0xFF}, 16))
	}
	a, b := device(t, small), device(t, small)
	put(t, a, at(0, 0), 7, 3, nil)
	put(t, b, at(0, 0), 7, 3, []byte{})
	if !crash.Same(a, b) {
		t.Errorf("no Data, nil and empty, are two things")
	}
}
