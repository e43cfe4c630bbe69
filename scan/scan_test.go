package scan_test

import (
	"bytes"
	"encoding/binary"
	"fmt"
	"hash/crc32"
	"math"
	"slices"
	"testing"

	"spence/api"
	"spence/crash"
	"spence/flash"
	"spence/scan"
	"spence/seglog"
)

// greatest is the greatest number there is.
const greatest = math.MaxUint64

// small is a device's shape: four segments of six pages of 16 bytes.
var small = shape(4, 6, 16)

// shape is a device's: segments, pages of each, bytes of each page.
func shape(segments, pages, bytes int) api.Shape {
	return api.Shape{Segments: segments, Pages: pages, Bytes: bytes}
}

// at is a page's place.
func at(seg, page int) api.Addr { return api.Addr{Segment: seg, Page: page} }

// plan is how a device crashes.
func plan(keep uint64, torn, cut int) api.Plan { return api.Plan{Keep: keep, Torn: torn, Cut: cut} }

// device is a fresh one.
func device(t *testing.T, s api.Shape) *flash.Device {
	t.Helper()
	d, e := flash.New(s)
	if e != api.OK {
		t.Fatalf("flash.New(%v): error %d", s, e)
	}
	return d
}

// shapes are such that may be a log's, the least and the greatest ones among them; in the first ones no record has room.
func shapes() []api.Shape {
	return []api.Shape{
		shape(4, 1, 16), shape(16, 1, 256), shape(4, 2, 16), shape(4, 2, 17), shape(5, 3, 16), small, shape(4, 8, 31), shape(7, 5, 20), shape(16, 4, 16),
		shape(16, 2, 256), shape(4, 16, 256), shape(4, 17, 256), shape(5, 18, 256), shape(4, 64, 16), shape(16, 64, 256),
	}
}

// nobodys are devices that there aren't.
func nobodys() []*flash.Device {
	wrong, _ := flash.New(shape(17, 1, 16))
	return []*flash.Device{nil, {}, new(flash.Device), wrong, (*flash.Device)(nil).Copy()}
}

// A dice tells numbers without a short rule in them, the same ones each time.
type dice uint64

func (x *dice) next(below int) int {
	*x ^= *x << 13
	*x ^= *x >> 7
	*x ^= *x << 17
	return int(uint64(*x) >> 11 % uint64(below))
}

// plan is any crash of so many pages.
func (x *dice) plan(pages, bytes int) api.Plan {
	return plan(uint64(x.next(1<<32))<<32|uint64(x.next(1<<32)), x.next(pages+2)-1, x.next(bytes+2)-1)
}

// seeded is a dice of its own for each seed.
func seeded(seed int) *dice {
	x := dice(88172645463325252 + 7919*seed)
	for range 9 {
		x.next(2)
	}
	return &x
}

// some are so many bytes without a short rule in them; a seed makes others.
func some(length, seed int) []byte {
	b, x := make([]byte, length), seeded(seed)
	for i := range b {
		b[i] = byte(x.next(256))
	}
	return b
}

// like is whether two records are alike; no Data, nil and empty, are the same.
func like(a, b api.Entry) bool {
	return a.At == b.At && a.Seq == b.Seq && a.Pages == b.Pages && a.Kind == b.Kind && string(a.Data) == string(b.Data)
}

// alike is whether two segments are told alike.
func alike(a, b scan.Found) bool {
	return a.Seg == b.Seg && a.Seq == b.Seq && slices.EqualFunc(a.Entries, b.Entries, like)
}

// short is something as a text that isn't too long to be looked at.
func short(x any) string {
	text := fmt.Sprint(x)
	return text[:min(len(text), 400)]
}

// found is a segment as it is told.
func found(seg int, seq uint64, entries ...api.Entry) scan.Found {
	return scan.Found{Seg: seg, Seq: seq, Entries: entries}
}

// laid are a record's bytes, told by the library.
func laid(kind byte, seq uint64, data []byte) []byte {
	out := []byte{0xA5, kind}
	out = binary.BigEndian.AppendUint16(out, uint16(len(data)))
	out = binary.BigEndian.AppendUint64(out, seq)
	out = append(out, data...)
	return binary.LittleEndian.AppendUint32(out, crc32.ChecksumIEEE(out))
}

// takes is how many pages a record of so many bytes of Data has.
func takes(n, size int) int { return (n + 16 + size - 1) / size }

// write lays bytes from a page on, whatever is ahead of it.
func write(t *testing.T, d *flash.Device, a api.Addr, b []byte) {
	t.Helper()
	size := d.Shape().Bytes
	for page := a.Page; len(b) > 0; page++ {
		n := min(len(b), size)
		if e := d.Write(a.Segment, page, b[:n]); e != api.OK {
			t.Fatalf("Write to page %d of segment %d: error %d", page, a.Segment, e)
		}
		b = b[n:]
	}
}

// put lays a record at a page, whatever is ahead of it; it is told what it must be told as.
func put(t *testing.T, d *flash.Device, a api.Addr, kind byte, seq uint64, data []byte) api.Entry {
	t.Helper()
	write(t, d, a, laid(kind, seq, data))
	return api.Entry{At: a, Seq: seq, Pages: takes(len(data), d.Shape().Bytes), Kind: kind, Data: data}
}

// record is what stands at a place by its bytes, if it is a record.
func record(d *flash.Device, a api.Addr) (api.Entry, bool) {
	var b []byte
	for page := a.Page; page < d.Shape().Pages; page++ {
		part, _ := d.Read(a.Segment, page)
		b = append(b, part...)
	}
	if len(b) == 0 || b[0] != 0xA5 {
		return api.Entry{}, false
	}
	n := int(binary.BigEndian.Uint16(b[2:]))
	if n > 4096 || len(b) < n+16 {
		return api.Entry{}, false
	}
	seq, data := binary.BigEndian.Uint64(b[4:]), b[12:12+n]
	if !bytes.Equal(laid(b[1], seq, data), b[:16+n]) {
		return api.Entry{}, false
	}
	return api.Entry{At: a, Seq: seq, Pages: takes(n, d.Shape().Bytes), Kind: b[1], Data: data}, true
}

// stands is what a segment must be told as, by its bytes.
func stands(d *flash.Device, seg int) (scan.Found, bool) {
	head, is := record(d, at(seg, 0))
	if !is || head.Kind != 1 || len(head.Data) != 0 {
		return scan.Found{}, false
	}
	f := found(seg, head.Seq)
	for page := head.Pages; ; {
		x, is := record(d, at(seg, page))
		if !is || x.Kind == 1 || x.Seq != head.Seq {
			return f, true
		}
		f.Entries = append(f.Entries, x)
		page += x.Pages
	}
}

// ordered are segments one behind the other, as they must be told: the least one is taken, again and again.
func ordered(l []scan.Found) []scan.Found {
	var out []scan.Found
	for rest := slices.Clone(l); len(rest) > 0; {
		least := 0
		for i, x := range rest {
			if x.Seq < rest[least].Seq || x.Seq == rest[least].Seq && x.Seg < rest[least].Seg {
				least = i
			}
		}
		out = append(out, rest[least])
		rest = slices.Delete(rest, least, least+1)
	}
	return out
}

// joined are the entries of all of them.
func joined(l []scan.Found) []api.Entry {
	var out []api.Entry
	for _, f := range l {
		out = append(out, f.Entries...)
	}
	return out
}

// byBytes is what must be told of a device, by its bytes.
func byBytes(d *flash.Device) []scan.Found {
	var l []scan.Found
	for seg := range d.Shape().Segments {
		if f, is := stands(d, seg); is {
			l = append(l, f)
		}
	}
	return ordered(l)
}

// number is what Next must be.
func number(l []scan.Found) uint64 {
	if len(l) == 0 {
		return 1
	}
	var seqs []uint64
	for _, f := range l {
		seqs = append(seqs, f.Seq)
	}
	slices.Sort(seqs)
	if most := seqs[len(seqs)-1]; most < greatest {
		return most + 1
	}
	return greatest
}

// unchanged holds that a device is as another one: the same bytes, and the same pages that aren't lasting, in their order.
func unchanged(t *testing.T, d, want *flash.Device) {
	t.Helper()
	if !crash.Same(d, want) || d.Dirty() != want.Dirty() {
		t.Fatalf("the device has the pages %v, %d of them not lasting; want %v, %d, or others of its bytes", crash.Pages(d), d.Dirty(), crash.Pages(want), want.Dirty())
	}
	for i := range d.Dirty() {
		// A torn page is kept from page 64 on, too.
		if p := plan(0, i, 256); !crash.Same(crash.After(d, p), crash.After(want, p)) {
			t.Fatalf("the page that was written at %d is another one", i)
		}
	}
}

// segments holds what Segments tells.
func segments(t *testing.T, d *flash.Device, want ...scan.Found) {
	t.Helper()
	if got := scan.Segments(d); !slices.EqualFunc(got, want, alike) {
		t.Fatalf("Segments: %s; want %s", short(got), short(want))
	}
}

// all holds what All tells.
func all(t *testing.T, d *flash.Device, want ...api.Entry) {
	t.Helper()
	if got := scan.All(d); !slices.EqualFunc(got, want, like) {
		t.Fatalf("All: %s; want %s", short(got), short(want))
	}
}

// next holds what Next tells.
func next(t *testing.T, l []scan.Found, want uint64) {
	t.Helper()
	if got := scan.Next(l); got != want {
		t.Fatalf("Next of %s: %d; want %d", short(l), got, want)
	}
}

// used holds what Used tells.
func used(t *testing.T, d *flash.Device, want int) {
	t.Helper()
	if got := scan.Used(d); got != want {
		t.Fatalf("Used: %d; want %d", got, want)
	}
}

// tells holds all that is told of a device; and that telling it changes nothing.
func tells(t *testing.T, d *flash.Device, want ...scan.Found) {
	t.Helper()
	ahead := d.Copy()
	want = ordered(want)
	for range 2 {
		segments(t, d, want...)
		all(t, d, joined(want)...)
		next(t, scan.Segments(d), number(want))
		used(t, d, len(crash.Pages(ahead)))
	}
	unchanged(t, d, ahead)
}

// P16.1.

// TestNoDevice: none, and such that nobody made.
func TestNoDevice(t *testing.T) {
	for _, d := range nobodys() {
		for range 2 {
			tells(t, d)
			used(t, d, 0)
			if l, x, e := scan.Recover(d); l != nil || len(x) > 0 || e != api.ErrNil {
				t.Fatalf("Recover: %v, %v, %d", l, x, e)
			}
		}
	}
}

// TestFresh: of each shape, also of such that no log may have.
func TestFresh(t *testing.T) {
	for _, s := range append(shapes(), shape(1, 1, 16), shape(3, 64, 256)) {
		d := device(t, s)
		tells(t, d)
		used(t, d, 0)
	}
}

// A lying is how a segment of small may lie: lay writes it with a number, and tells what must be told of it.
type lying struct {
	name string
	told bool
	lay  func(t *testing.T, d *flash.Device, seg int, seq uint64) []api.Entry
}

// behind is a head, and behind it what else is laid; of that so much is told.
func behind(lay func(t *testing.T, d *flash.Device, seg int, seq uint64) []api.Entry) func(t *testing.T, d *flash.Device, seg int, seq uint64) []api.Entry {
	return func(t *testing.T, d *flash.Device, seg int, seq uint64) []api.Entry {
		t.Helper()
		put(t, d, at(seg, 0), 1, seq, nil)
		return lay(t, d, seg, seq)
	}
}

// toldLyings have a head.
func toldLyings() []lying {
	type test = testing.T
	type dev = flash.Device
	return []lying{
		{"a head alone", true, behind(func(t *test, d *dev, seg int, seq uint64) []api.Entry { return nil })},
		{"one record", true, behind(func(t *test, d *dev, seg int, seq uint64) []api.Entry {
			return []api.Entry{put(t, d, at(seg, 1), 3, seq, some(50, seg))}
		})},
		{"three records", true, behind(func(t *test, d *dev, seg int, seq uint64) []api.Entry {
			return []api.Entry{put(t, d, at(seg, 1), 2, seq, some(1, seg)), put(t, d, at(seg, 3), 0, seq, nil), put(t, d, at(seg, 4), 255, seq, some(16, seg))}
		})},
		{"a page between that isn't used", true, behind(func(t *test, d *dev, seg int, seq uint64) []api.Entry {
			put(t, d, at(seg, 3), 3, seq, nil)
			return []api.Entry{put(t, d, at(seg, 1), 3, seq, nil)}
		})},
		{"a record with another number", true, behind(func(t *test, d *dev, seg int, seq uint64) []api.Entry {
			put(t, d, at(seg, 2), 3, seq+1, nil)
			put(t, d, at(seg, 3), 3, seq, nil)
			return []api.Entry{put(t, d, at(seg, 1), 3, seq, nil)}
		})},
		{"a second head", true, behind(func(t *test, d *dev, seg int, seq uint64) []api.Entry {
			x := put(t, d, at(seg, 1), 4, seq, some(9, seg))
			put(t, d, at(seg, 3), 1, seq, nil)
			put(t, d, at(seg, 4), 3, seq, nil)
			return []api.Entry{x}
		})},
		{"a record that is torn", true, behind(func(t *test, d *dev, seg int, seq uint64) []api.Entry {
			write(t, d, at(seg, 1), laid(3, seq, some(40, seg))[:47])
			put(t, d, at(seg, 5), 3, seq, nil)
			return nil
		})},
	}
}

// untoldLyings have none.
func untoldLyings() []lying {
	type test = testing.T
	type dev = flash.Device
	return []lying{
		{"nothing", false, func(t *test, d *dev, seg int, seq uint64) []api.Entry { return nil }},
		{"a record at the first page", false, func(t *test, d *dev, seg int, seq uint64) []api.Entry {
			put(t, d, at(seg, 0), 3, seq, nil)
			put(t, d, at(seg, 1), 3, seq, nil)
			return nil
		}},
		{"records without a page ahead of them", false, func(t *test, d *dev, seg int, seq uint64) []api.Entry {
			put(t, d, at(seg, 1), 3, seq, some(20, seg))
			put(t, d, at(seg, 4), 3, seq, nil)
			return nil
		}},
		{"a head with Data", false, func(t *test, d *dev, seg int, seq uint64) []api.Entry {
			put(t, d, at(seg, 0), 1, seq, []byte{0})
			put(t, d, at(seg, 2), 3, seq, nil)
			return nil
		}},
		{"a head at the second page", false, func(t *test, d *dev, seg int, seq uint64) []api.Entry {
			put(t, d, at(seg, 1), 1, seq, nil)
			put(t, d, at(seg, 2), 3, seq, nil)
			return nil
		}},
		{"a head of which a bit is turned", false, func(t *test, d *dev, seg int, seq uint64) []api.Entry {
			b := laid(1, seq, nil)
			b[11] ^= 1
			write(t, d, at(seg, 0), b)
			put(t, d, at(seg, 1), 3, seq, nil)
			return nil
		}},
		{"the last page alone", false, func(t *test, d *dev, seg int, seq uint64) []api.Entry {
			write(t, d, at(seg, 5), []byte{0})
			return nil
		}},
		{"a page to which erased bytes were written", false, func(t *test, d *dev, seg int, seq uint64) []api.Entry {
			write(t, d, at(seg, seg%6), []byte{0xFF})
			return nil
		}},
	}
}

// lyings are all of them.
func lyings() []lying { return append(toldLyings(), untoldLyings()...) }

// add lays a segment so, and adds what must be told of it, if something must.
func (x lying) add(t *testing.T, d *flash.Device, l []scan.Found, seg int, seq uint64) []scan.Found {
	t.Helper()
	entries := x.lay(t, d, seg, seq)
	if !x.told {
		return l
	}
	return append(l, found(seg, seq, entries...))
}

// TestByHand: what is told, written out.
func TestByHand(t *testing.T) {
	d := device(t, small)
	put(t, d, at(2, 0), 1, 3, nil)
	put(t, d, at(2, 1), 3, 3, []byte("abc"))
	put(t, d, at(2, 3), 4, 3, nil)
	put(t, d, at(0, 0), 1, 9, nil)
	put(t, d, at(0, 1), 2, 9, []byte("d"))
	put(t, d, at(3, 0), 1, 7, nil)
	put(t, d, at(1, 1), 3, 5, nil)
	abc := api.Entry{At: at(2, 1), Seq: 3, Pages: 2, Kind: 3, Data: []byte("abc")}
	none := api.Entry{At: at(2, 3), Seq: 3, Pages: 1, Kind: 4}
	last := api.Entry{At: at(0, 1), Seq: 9, Pages: 2, Kind: 2, Data: []byte("d")}
	segments(t, d, found(2, 3, abc, none), found(3, 7), found(0, 9, last))
	all(t, d, abc, none, last)
	next(t, scan.Segments(d), 10)
	used(t, d, 9)
}

// TestEachLying: each one in each segment, the others clean, and each with a head of its own.
func TestEachLying(t *testing.T) {
	for _, x := range lyings() {
		for seg := range 4 {
			for _, seq := range []uint64{0, 1, 77, greatest - 1, greatest} {
				d := device(t, small)
				tells(t, d, x.add(t, d, nil, seg, seq)...)
				l := x.add(t, device(t, small), nil, seg, seq)
				for other := range 4 {
					if other != seg {
						l = toldLyings()[other].add(t, d, l, other, uint64(75+other))
					}
				}
				tells(t, d, l...)
			}
		}
	}
}

// TestHeads: each set of segments that have a head, with numbers that rise with the places, that fall, and that are mixed.
func TestHeads(t *testing.T) {
	for set := range 16 {
		for order := range 256 {
			var l []scan.Found
			d := device(t, small)
			for seg := range 4 {
				// Two bits for each: also those that are the same.
				seq := uint64(order >> (2 * seg) & 3)
				if set>>seg&1 == 1 {
					l = toldLyings()[(seg+order)%3].add(t, d, l, seg, seq)
				}
			}
			tells(t, d, l...)
		}
	}
}

// TestNumbers: three segments with each three numbers, the least and the greatest ones among them.
func TestNumbers(t *testing.T) {
	numbers := []uint64{0, 1, 2, 255, 256, 1<<31 - 1, 1 << 32, 1<<63 - 1, 1 << 63, 1<<63 + 1, greatest - 1, greatest}
	for _, a := range numbers {
		for _, b := range numbers {
			for _, c := range numbers {
				d := device(t, small)
				var l []scan.Found
				l = toldLyings()[1].add(t, d, l, 0, a)
				l = toldLyings()[0].add(t, d, l, 1, b)
				l = toldLyings()[2].add(t, d, l, 3, c)
				segments(t, d, ordered(l)...)
				all(t, d, joined(ordered(l))...)
				next(t, scan.Segments(d), number(l))
			}
		}
	}
}

// TestOneNumber: all segments have the same one, and two turns of the same ones: they stand by rising places.
func TestOneNumber(t *testing.T) {
	for segs := 1; segs <= 16; segs++ {
		for turns := 1; turns <= 5; turns++ {
			d := device(t, shape(segs, 6, 16))
			var l []scan.Found
			// They are written in another order than they are told.
			for i := range segs {
				seg := segs - 1 - i
				l = toldLyings()[seg%3].add(t, d, l, seg, uint64(seg%turns))
			}
			tells(t, d, l...)
			got := scan.Segments(d)
			for i, f := range got[1:] {
				if a := got[i]; f.Seq < a.Seq || f.Seq == a.Seq && f.Seg <= a.Seg {
					t.Fatalf("segment %d with %d stands ahead of segment %d with %d", a.Seg, a.Seq, f.Seg, f.Seq)
				}
			}
		}
	}
}

// TestMixed: lyings of all kinds, on devices of four to sixteen segments; what isn't lasting counts as what is.
func TestMixed(t *testing.T) {
	for seed := range 800 {
		x := seeded(seed)
		d := device(t, shape(1+x.next(16), 6, 16))
		var l []scan.Found
		for seg := range d.Shape().Segments {
			l = lyings()[x.next(len(lyings()))].add(t, d, l, seg, uint64(x.next(12)))
			if x.next(9) == 0 {
				d.Sync()
			}
		}
		tells(t, d, l...)
		if seed%8 == 0 {
			recovers(t, d, l...)
		}
	}
}

// TestNext: without any, of one, of several in any order, of the greatest number there is and of one less.
func TestNext(t *testing.T) {
	for _, l := range [][]scan.Found{nil, {}, make([]scan.Found, 0, 5), []scan.Found{{Seq: 5}}[:0]} {
		next(t, l, 1)
	}
	for seq, want := range map[uint64]uint64{0: 1, 1: 2, 6: 7, 255: 256, 1<<32 - 1: 1 << 32, 1<<63 - 1: 1 << 63, 1 << 63: 1<<63 + 1, greatest - 2: greatest - 1, greatest - 1: greatest, greatest: greatest} {
		next(t, []scan.Found{{Seq: seq}}, want)
		next(t, []scan.Found{{Seg: -7, Seq: seq, Entries: []api.Entry{{Seq: greatest}}}}, want)
		next(t, []scan.Found{{Seq: 0}, {Seq: seq}, {Seq: 0}}, want)
		next(t, []scan.Found{{Seq: seq}, {Seq: seq}}, want)
	}
	for _, c := range []struct {
		want uint64
		seqs []uint64
	}{
		{4, []uint64{1, 2, 3}}, {4, []uint64{3, 2, 1}}, {4, []uint64{2, 3, 1}}, {10, []uint64{9, 0, 9, 4}},
		{greatest, []uint64{1, greatest, 2}}, {greatest, []uint64{greatest, greatest - 1}}, {greatest, []uint64{greatest - 1, 5}}, {1 << 63, []uint64{1<<63 - 1, 3}},
	} {
		var l []scan.Found
		for i, seq := range c.seqs {
			l = append(l, found(i, seq))
		}
		next(t, l, c.want)
	}
	for length := range 4 {
		// What is behind the list's length plays no part, and the list stays as it is.
		l := []scan.Found{{Seq: 3}, {Seq: 1}, {Seq: 2}, {Seq: 99}}
		next(t, l[:length], []uint64{1, 4, 4, 4}[length])
		if l[0].Seq != 3 || l[1].Seq != 1 || l[2].Seq != 2 || l[3].Seq != 99 {
			t.Fatalf("the list is changed: %v", l)
		}
	}
}

// TestUsed: no page, one, each more, all; also behind Erase, and of no segments that a log may have.
func TestUsed(t *testing.T) {
	for _, s := range append(shapes(), shape(1, 1, 16), shape(2, 3, 20), shape(3, 64, 256)) {
		d := device(t, s)
		n := 0
		for page := range s.Pages {
			for seg := range s.Segments {
				used(t, d, n)
				d.Write(seg, page, some(page%3, seg))
				n++
				if n%5 == 0 {
					d.Sync()
				}
			}
		}
		used(t, d, s.Segments*s.Pages)
		d.Erase(s.Segments - 1)
		used(t, d, (s.Segments-1)*s.Pages)
	}
	for seg := range 4 {
		for page := range 6 {
			d := device(t, small)
			d.Write(seg, page, nil)
			used(t, d, 1)
		}
	}
}

// P16.2.

// recovers holds what Recover makes of a device of which these segments are to be told; and that doing it twice is as doing it once.
func recovers(t *testing.T, d *flash.Device, want ...scan.Found) (*seglog.Log, []api.Entry) {
	t.Helper()
	if d.Shape().Segments < 4 {
		refused(t, d, api.ErrArg)
		return nil, nil
	}
	want = ordered(want)
	ahead := d.Copy()
	for seg := range d.Shape().Segments {
		if !slices.ContainsFunc(want, func(f scan.Found) bool { return f.Seg == seg }) {
			ahead.Erase(seg)
		}
	}
	var first *seglog.Log
	var told []api.Entry
	for i := range 2 {
		l, x, e := scan.Recover(d)
		if e != api.OK || l == nil || l == first || l.Device() != d || !slices.EqualFunc(x, joined(want), like) {
			t.Fatalf("Recover: %s, %s, %d; want %s", short(l), short(x), e, short(joined(want)))
		}
		unchanged(t, d, ahead)
		fresh(t, l, want)
		if i == 0 {
			first, told = l, x
		}
	}
	fresh(t, first, want)
	tells(t, d, want...)
	return first, told
}

// fresh holds what a log must be of which nothing was asked yet: these segments are Sealed, all others Free.
func fresh(t *testing.T, l *seglog.Log, want []scan.Found) {
	t.Helper()
	n := l.Device().Shape().Segments
	if a, b, c := l.Count(seglog.Free), l.Count(seglog.Opened), l.Count(seglog.Sealed); a != n-len(want) || b != 0 || c != len(want) {
		t.Fatalf("%d Free, %d Opened, %d Sealed; want %d, 0, %d", a, b, c, n-len(want), len(want))
	}
	if seg, page := l.Open(); seg != -1 || page != 0 {
		t.Fatalf("Open: %d, %d", seg, page)
	}
	if got := l.Next(); got != number(want) {
		t.Fatalf("Next: %d; want %d", got, number(want))
	}
	var sealed []int
	for _, f := range want {
		sealed = append(sealed, f.Seg)
		if got := l.Entries(f.Seg); l.State(f.Seg) != seglog.Sealed || !slices.EqualFunc(got, f.Entries, like) {
			t.Fatalf("segment %d: State %d, Entries %s; want %s", f.Seg, l.State(f.Seg), short(got), short(f.Entries))
		}
		for _, x := range f.Entries {
			if got, e := l.Read(x.At); e != api.OK || !like(got, x) {
				t.Fatalf("Read(%v): %s, %d; want %s", x.At, short(got), e, short(x))
			}
		}
	}
	for seg := range n {
		if !slices.Contains(sealed, seg) && (l.State(seg) != seglog.Free || len(l.Entries(seg)) > 0) {
			t.Fatalf("segment %d: State %d, Entries %s; want none", seg, l.State(seg), short(l.Entries(seg)))
		}
	}
}

// refused holds that Recover refuses a device, and leaves it as it is.
func refused(t *testing.T, d *flash.Device, want api.Errno) {
	t.Helper()
	ahead := d.Copy()
	for range 2 {
		if l, x, e := scan.Recover(d); l != nil || len(x) > 0 || e != want {
			t.Fatalf("Recover: %v, %v, %d; want error %d", l, x, e, want)
		}
		unchanged(t, d, ahead)
	}
}

// goes holds where a recovered log's next Append goes, or that there is no room for it, and likewise Move.
func goes(t *testing.T, l *seglog.Log) {
	t.Helper()
	n := l.Device().Shape().Segments
	least := -1
	for seg := n - 1; seg >= 0; seg-- {
		if l.State(seg) == seglog.Free {
			least = seg
		}
	}
	free, seq := l.Count(seglog.Free), l.Next()
	for _, c := range []struct {
		log  *seglog.Log
		need int
		put  func(l *seglog.Log, kind byte, data []byte) (api.Addr, api.Errno)
	}{{l.Copy(), 2, (*seglog.Log).Append}, {l.Copy(), 1, (*seglog.Log).Move}} {
		a, e := c.put(c.log, 3, []byte("abc"))
		if free < c.need {
			if e != api.ErrFull {
				t.Fatalf("%v, %d, though %d are Free", a, e, free)
			}
			continue
		}
		x, f := c.log.Read(a)
		if e != api.OK || f != api.OK || a != at(least, 1) || x.Seq != seq || string(x.Data) != "abc" {
			t.Fatalf("%v, %d: %v, %d; want segment %d, and the number %d", a, e, x, f, least, seq)
		}
		// What is behind what was told is told behind it, unless no number is greater.
		if got := scan.All(c.log.Device()); seq < greatest && (len(got) == 0 || !like(got[len(got)-1], x)) {
			t.Fatalf("the last one is another one than %v: %v", x, got)
		}
	}
}

// TestExample: the chapter's.
func TestExample(t *testing.T) {
	for _, s := range shapes() {
		d := device(t, s)
		l, x := recovers(t, d)
		if len(x) != 0 || l.Count(seglog.Free) != s.Segments || l.Next() != 1 {
			t.Fatalf("%v: %v, %d Free, Next %d", s, x, l.Count(seglog.Free), l.Next())
		}
		if s.Pages > 3 {
			goes(t, l)
		}
	}
}

// TestTooFew: with one, two and three segments nothing is recovered, and nothing erased; with four it is.
func TestTooFew(t *testing.T) {
	for segs := 1; segs <= 4; segs++ {
		for _, x := range lyings() {
			for _, y := range lyings() {
				d := device(t, shape(segs, 6, 16))
				l := x.add(t, d, nil, 0, 4)
				d.Sync()
				if segs > 1 {
					l = y.add(t, d, l, segs-1, 3)
				}
				if segs < 4 {
					refused(t, d, api.ErrArg)
					tells(t, d, l...)
				} else {
					recovers(t, d, l...)
				}
			}
		}
	}
}

// TestRecoverEach: each lying in each segment, the others clean, and with heads.
func TestRecoverEach(t *testing.T) {
	for _, x := range lyings() {
		for seg := range 4 {
			for _, seq := range []uint64{0, 1, 77, greatest - 1, greatest} {
				for heads := range 4 {
					d := device(t, small)
					l := x.add(t, d, nil, seg, seq)
					for i := range heads {
						l = toldLyings()[i].add(t, d, l, (seg+1+i)%4, uint64(80-i))
					}
					log, _ := recovers(t, d, l...)
					goes(t, log)
				}
			}
		}
	}
}

// TestRecoverPairs: each two lyings, on two segments of five, what isn't lasting among them.
func TestRecoverPairs(t *testing.T) {
	for i, x := range lyings() {
		for j, y := range lyings() {
			d := device(t, shape(5, 6, 16))
			l := x.add(t, d, nil, 3, uint64(2+(i+j)%2))
			if i%2 == 0 {
				d.Sync()
			}
			l = y.add(t, d, l, 1, 2)
			log, _ := recovers(t, d, l...)
			goes(t, log)
		}
	}
}

// TestRecoverAllHeads: all segments have one, so none is Free, and nothing is erased; till one is.
func TestRecoverAllHeads(t *testing.T) {
	for _, segs := range []int{4, 5, 16} {
		d := device(t, shape(segs, 6, 16))
		var l []scan.Found
		for seg := range segs {
			l = toldLyings()[seg%len(toldLyings())].add(t, d, l, seg, uint64(100-seg))
		}
		ahead := d.Copy()
		log, _ := recovers(t, d, l...)
		unchanged(t, d, ahead)
		goes(t, log)
		if e := log.Erase(2); e != api.OK {
			t.Fatal(e)
		}
		goes(t, log)
		if e := log.Erase(1); e != api.OK {
			t.Fatal(e)
		}
		goes(t, log)
		if a, e := log.Append(3, nil); a != at(1, 1) || e != api.OK || log.Next() != 102 {
			t.Fatal(a, e, log.Next())
		}
	}
}

// TestRecoverLasting: what is erased is lasting so, and what is kept is no more lasting than it was.
func TestRecoverLasting(t *testing.T) {
	d := device(t, small)
	l := toldLyings()[1].add(t, d, nil, 0, 1)
	d.Sync()
	untoldLyings()[1].add(t, d, nil, 1, 1)
	l = toldLyings()[0].add(t, d, l, 2, 2)
	untoldLyings()[5].add(t, d, nil, 3, 1)
	if d.Dirty() != 5 {
		t.Fatalf("%d pages aren't lasting", d.Dirty())
	}
	recovers(t, d, l...)
	if d.Dirty() != 1 {
		t.Fatalf("%d pages aren't lasting", d.Dirty())
	}
	tells(t, crash.After(d, plan(greatest, -1, 0)), l...)
	tells(t, crash.After(d, plan(0, -1, 0)), l[0])
}

// TestRecoverOfLog: of the device of a log that has one Opened: that one is Sealed in the new log, and the old log has states of its own.
func TestRecoverOfLog(t *testing.T) {
	d := device(t, small)
	old, _ := seglog.New(d)
	for i, n := range []int{0, 20, 60, 5} {
		if _, e := old.Append(3, some(n, i)); e != api.OK {
			t.Fatal(e)
		}
	}
	if seg, page := old.Open(); seg != 2 || page != 3 {
		t.Fatal(seg, page)
	}
	l, x := recovers(t, d, byBytes(d)...)
	if len(x) != 4 || l.State(2) != seglog.Sealed || l.State(3) != seglog.Free || l.Next() != 4 {
		t.Fatalf("%v, %d, %d, %d", x, l.State(2), l.State(3), l.Next())
	}
	goes(t, l)
	if a, e := l.Move(4, nil); a != at(3, 1) || e != api.OK || l.Next() != 5 {
		t.Fatal(a, e, l.Next())
	}
	if seg, page := old.Open(); seg != 2 || page != 3 || old.Next() != 4 || old.State(3) != seglog.Free {
		t.Fatal(seg, page, old.Next(), old.State(3))
	}
}

// TestCrashOfHead: a device that crashed while a head was written, and the record behind it: the head is lost, torn behind each byte, or whole.
func TestCrashOfHead(t *testing.T) {
	for _, size := range []int{16, 20} {
		for keep := range uint64(8) {
			for torn := -1; torn < 3; torn++ {
				for cut := range size + 1 {
					d := device(t, shape(5, 6, size))
					old, _ := seglog.New(d)
					old.Append(3, some(4*size, 1))
					old.Sync()
					old.Append(3, some(size, 2))
					if d.Dirty() != 3 {
						t.Fatalf("%d pages aren't lasting", d.Dirty())
					}
					ahead := byBytes(d)
					p := plan(keep, torn, cut)
					d.Crash(p)
					whole := crash.Keeps(p, 0) || torn == 0 && cut >= 16
					l, x := recovers(t, d, byBytes(d)...)
					goes(t, l)
					want := ahead[:1]
					switch {
					case whole && crash.Keeps(p, 1) && crash.Keeps(p, 2):
						want = ahead
					case whole:
						// A record of which a part is lost isn't told, but for a part that is as if it were erased.
						if len(x) == 2 {
							want = ahead
						} else {
							want = []scan.Found{ahead[0], found(1, 2)}
						}
					}
					segments(t, d, want...)
					if (l.State(1) == seglog.Sealed) != whole || l.State(0) != seglog.Sealed || l.Count(seglog.Free) != 5-len(want) || l.Next() != uint64(1+len(want)) {
						t.Fatalf("behind %v: states %d, %d, Next %d", p, l.State(0), l.State(1), l.Next())
					}
				}
			}
		}
	}
}

// P16.3.

// A diary is what was done to a log: what must be told of its device.
type diary struct {
	log *seglog.Log
	// rows are what was put, in order, but for what was erased; the first ones, so many, are lasting.
	rows    []api.Entry
	lasting int
	// whole is whether no page was lost: then the used ones are told by the rows.
	whole bool
}

// began is a new log and its diary.
func began(t *testing.T, s api.Shape) *diary {
	t.Helper()
	l, e := seglog.New(device(t, s))
	if e != api.OK {
		t.Fatalf("New: error %d", e)
	}
	return &diary{log: l, whole: true}
}

func (x *diary) copied() *diary {
	return &diary{x.log.Copy(), slices.Clone(x.rows), x.lasting, x.whole}
}

// put appends, or moves.
func (x *diary) put(move bool, kind byte, data []byte) {
	deed := (*seglog.Log).Append
	if move {
		deed = (*seglog.Log).Move
	}
	if a, e := deed(x.log, kind, data); e == api.OK {
		// Each segment that is Opened raises Next.
		x.rows = append(x.rows, api.Entry{At: a, Seq: x.log.Next() - 1, Pages: takes(len(data), x.log.Device().Shape().Bytes), Kind: kind, Data: slices.Clone(data)})
	}
}

func (x *diary) erase(seg int) {
	if x.log.Erase(seg) != api.OK {
		return
	}
	var rows []api.Entry
	lasting := 0
	for i, e := range x.rows {
		if e.At.Segment != seg {
			rows = append(rows, e)
			if i < x.lasting {
				lasting++
			}
		}
	}
	x.rows, x.lasting = rows, lasting
}

func (x *diary) sync() {
	x.log.Sync()
	x.lasting = len(x.rows)
}

// holds is that all that was put is told, in order.
func (x *diary) holds(t *testing.T) {
	t.Helper()
	d := x.log.Device()
	all(t, d, x.rows...)
	l := scan.Segments(d)
	if !slices.EqualFunc(joined(l), x.rows, like) {
		t.Fatalf("Segments: %s; want %s", short(l), short(x.rows))
	}
	pages := 0
	for _, f := range l {
		pages++
		if x.log.State(f.Seg) == seglog.Free || x.log.Next() <= f.Seq {
			t.Fatalf("segment %d: State %d, the number %d, Next %d", f.Seg, x.log.State(f.Seg), f.Seq, x.log.Next())
		}
	}
	for _, e := range x.rows {
		pages += e.Pages
	}
	if x.whole {
		used(t, d, pages)
		if len(l)+x.log.Count(seglog.Free) != d.Shape().Segments {
			t.Fatalf("%d segments are told, and %d are Free", len(l), x.log.Count(seglog.Free))
		}
	}
}

// less holds what is told of a device behind a crash: what its bytes tell, and so of each segment the first ones of what it had, and all that was lasting.
func (x *diary) less(t *testing.T, d *flash.Device) {
	t.Helper()
	got := scan.All(d)
	segments(t, d, byBytes(d)...)
	i := 0
	lost := map[int]bool{}
	for k, e := range x.rows {
		switch {
		case i < len(got) && like(got[i], e):
			if lost[e.At.Segment] {
				t.Fatalf("%v is told, and one ahead of it in its segment isn't", e)
			}
			i++
		case k < x.lasting:
			t.Fatalf("%s was lasting, and isn't told: %s", short(e), short(got))
		default:
			lost[e.At.Segment] = true
		}
	}
	if i < len(got) {
		t.Fatalf("%s is told, and wasn't there: %s", short(got[i]), short(x.rows))
	}
}

// crashes is a copy of a diary behind a crash, recovered.
func (x *diary) crashes(t *testing.T, p api.Plan) *diary {
	t.Helper()
	d := crash.After(x.log.Device(), p)
	x.less(t, d)
	l, told, e := scan.Recover(d)
	if e != api.OK {
		t.Fatalf("Recover: error %d", e)
	}
	x.less(t, d)
	return &diary{log: l, rows: told, lasting: len(told)}
}

// most is how many bytes a record has at the most that fits behind a head: below nought, if there is none.
func most(s api.Shape) int { return min((s.Pages-1)*s.Bytes-16, 4096) }

// does is any deed.
func (x *diary) does(dice *dice) {
	s := x.log.Device().Shape()
	switch k := dice.next(100); {
	case k < 72:
		n := dice.next(max(most(s), 0) + 2)
		if dice.next(3) > 0 {
			n = dice.next(min(n, 2*s.Bytes) + 1)
		}
		x.put(dice.next(2) == 0, byte(dice.next(7)), some(n, dice.next(1000)))
	case k < 88:
		x.erase(dice.next(s.Segments+2) - 1)
	case k < 92:
		x.log.Seal()
	default:
		x.sync()
	}
}

// TestRows: each row of four deeds on a small device, behind each number of segments that are full.
func TestRows(t *testing.T) {
	s := shape(4, 3, 16)
	var deeds []func(x *diary)
	for _, n := range []int{0, 16} {
		for _, move := range []bool{false, true} {
			deeds = append(deeds, func(x *diary) { x.put(move, byte(2+n%3), some(n, len(x.rows))) })
		}
	}
	for seg := range 4 {
		deeds = append(deeds, func(x *diary) { x.erase(seg) })
	}
	deeds = append(deeds, func(x *diary) { x.log.Seal() }, (*diary).sync)
	var further func(x *diary, more int)
	further = func(x *diary, more int) {
		x.holds(t)
		if more == 0 {
			return
		}
		for _, deed := range deeds {
			c := x.copied()
			deed(c)
			further(c, more-1)
		}
	}
	for filled := range 5 {
		x := began(t, s)
		for i := range filled {
			x.put(true, 3, some(16, i))
		}
		if len(x.rows) != filled {
			t.Fatalf("%d records of %d", len(x.rows), filled)
		}
		further(x, 3)
	}
	further(began(t, s), 4)
}

// TestPlays: long rows of deeds on devices of all shapes; all that was put is told at each time.
func TestPlays(t *testing.T) {
	told := 0
	for seed := range 120 {
		dice := seeded(seed)
		s := shape(4+dice.next(13), 1+dice.next(12), 16+dice.next(30))
		if seed < len(shapes()) {
			s = shapes()[seed]
		}
		x := began(t, s)
		for i := range 100 {
			x.does(dice)
			if s.Segments*s.Pages*s.Bytes < 10000 || i%20 == 19 {
				x.holds(t)
			}
		}
		x.holds(t)
		told += len(x.rows)
		recovers(t, x.log.Device(), byBytes(x.log.Device())...)
		all(t, x.log.Device(), x.rows...)
	}
	if told < 1000 {
		t.Errorf("%d records were told", told)
	}
}

// TestEachCrash: each plan, and each with one page torn, behind rows of deeds of which up to eight pages aren't lasting.
func TestEachCrash(t *testing.T) {
	crashes, fewer := 0, 0
	for seed := range 60 {
		dice := seeded(seed + 300)
		s := shape(4+dice.next(3), 3+dice.next(5), 16+dice.next(5))
		x := began(t, s)
		for range 10 + dice.next(20) {
			x.does(dice)
		}
		x.sync()
		for x.log.Device().Dirty() < 3 {
			x.does(dice)
		}
		n := x.log.Device().Dirty()
		if n > 8 {
			continue
		}
		one := func(p api.Plan) {
			y := x.crashes(t, p)
			crashes++
			if len(y.rows) < len(x.rows) {
				fewer++
			}
			if crashes%16 == 0 {
				recovers(t, y.log.Device(), byBytes(y.log.Device())...)
				goes(t, y.log)
			}
		}
		for p := range crash.All(n) {
			one(p)
		}
		for _, cut := range []int{1, 12, 16, s.Bytes - 1} {
			for p := range crash.Torn(n, cut) {
				if p.Keep%4 == uint64(cut%4) || n < 5 {
					one(p)
				}
			}
		}
	}
	if crashes < 5000 || fewer < 2000 {
		t.Errorf("%d crashes, of which %d left fewer records", crashes, fewer)
	}
}

// TestEachCut: a page torn behind each byte, in a segment's head, in a record's first page, and in its last one.
func TestEachCut(t *testing.T) {
	for _, s := range []api.Shape{small, shape(4, 4, 40), shape(5, 3, 256)} {
		x := began(t, s)
		x.put(false, 3, some(s.Bytes, 1))
		x.sync()
		x.log.Seal()
		x.put(false, 3, some(s.Bytes, 2))
		x.put(false, 3, nil)
		for torn := range x.log.Device().Dirty() {
			for cut := -1; cut <= s.Bytes+1; cut++ {
				for _, keep := range []uint64{0, greatest} {
					x.crashes(t, plan(keep, torn, cut)).holds(t)
				}
			}
		}
	}
}

// TestCrashPlays: long rows of deeds, with any crashes among them, each recovered: the log goes on.
func TestCrashPlays(t *testing.T) {
	crashes, fewer, behind := 0, 0, 0
	for seed := range 200 {
		dice := seeded(seed + 900)
		s := shape(4+dice.next(13), 1+dice.next(12), 16+dice.next(30))
		if seed < len(shapes()) {
			s = shapes()[seed]
		}
		x := began(t, s)
		great := s.Segments*s.Pages*s.Bytes >= 10000
		for i := range 120 {
			ahead := len(x.rows)
			x.does(dice)
			if !great || i%20 == 19 {
				x.holds(t)
			}
			if crashes > 0 && len(x.rows) > ahead {
				behind++
			}
			if dice.next(12) == 0 && (!great || dice.next(6) == 0) {
				y := x.crashes(t, dice.plan(x.log.Device().Dirty(), s.Bytes))
				crashes++
				if len(y.rows) < len(x.rows) {
					fewer++
				}
				x = y
				x.holds(t)
			}
		}
		l, _ := recovers(t, x.log.Device(), byBytes(x.log.Device())...)
		if s.Pages > 3 {
			goes(t, l)
		}
	}
	if crashes < 1000 || fewer < 300 || behind < 1000 {
		t.Errorf("%d crashes, of which %d left fewer records, and %d records behind the first one", crashes, fewer, behind)
	}
}

// TestSynced: behind a Sync all that was put is told behind each crash.
func TestSynced(t *testing.T) {
	for seed := range 20 {
		dice := seeded(seed + 60)
		x := began(t, shape(5, 8, 20))
		for range 30 {
			x.does(dice)
		}
		x.sync()
		for _, p := range []api.Plan{plan(0, -1, 0), plan(0, 0, 0), plan(greatest, 3, 1)} {
			y := x.crashes(t, p)
			y.holds(t)
			if len(y.rows) != len(x.rows) {
				t.Fatalf("%d records of %d", len(y.rows), len(x.rows))
			}
		}
	}
}

// P2, P3: what is whose.

// laidOut is a device with several records in several segments.
func laidOut(t *testing.T) (*flash.Device, []scan.Found) {
	t.Helper()
	d := device(t, shape(6, 6, 16))
	var l []scan.Found
	l = toldLyings()[2].add(t, d, l, 0, 8)
	l = toldLyings()[0].add(t, d, l, 1, 5)
	l = toldLyings()[2].add(t, d, l, 3, 2)
	l = toldLyings()[1].add(t, d, l, 5, 5)
	return d, ordered(l)
}

// spoilEntries turns all that there is of a list, also behind its length.
func spoilEntries(l []api.Entry) {
	for _, e := range l {
		for i := range e.Data[:cap(e.Data)] {
			e.Data[:cap(e.Data)][i] = 77
		}
	}
	for i := range l[:cap(l)] {
		l[:cap(l)][i] = api.Entry{At: at(-1, -1), Seq: 99}
	}
}

// TestOwnAnswers: what is told may be changed, and written behind; no two answers share memory, nor do two parts of one.
func TestOwnAnswers(t *testing.T) {
	d, want := laidOut(t)
	first, second := scan.Segments(d), scan.Segments(d)
	one, other := scan.All(d), scan.All(d)
	log, three, _ := scan.Recover(d)
	_, four, _ := scan.Recover(d)
	for i := range first {
		// Each one alone: none of the others is changed.
		spoilEntries(first[i].Entries)
		for k := i + 1; k < len(first); k++ {
			if !alike(first[k], want[k]) {
				t.Fatalf("segments %d and %d share memory", want[i].Seg, want[k].Seg)
			}
		}
	}
	clear(first[:cap(first)])
	for _, l := range [][]api.Entry{one, three} {
		for i := range l {
			for k := range l[i].Data {
				l[i].Data[k] ^= 0x55
			}
			if !slices.EqualFunc(l[i+1:], joined(want)[i+1:], like) {
				t.Fatalf("two records share memory: %v", l)
			}
		}
		spoilEntries(l)
	}
	if !slices.EqualFunc(second, want, alike) {
		t.Fatalf("two answers share memory: %v", second)
	}
	for _, l := range [][]api.Entry{other, four} {
		if !slices.EqualFunc(l, joined(want), like) {
			t.Fatalf("two answers share memory: %v", l)
		}
	}
	fresh(t, log, want)
	tells(t, d, want...)
}

// TestAnswersStay: what was told doesn't change with the device, nor with the log.
func TestAnswersStay(t *testing.T) {
	d, want := laidOut(t)
	segs, entries := scan.Segments(d), scan.All(d)
	log, told, _ := scan.Recover(d)
	for seg := range 6 {
		log.Erase(seg)
	}
	for i := range 12 {
		log.Append(3, some(i, i))
	}
	d.Crash(plan(5, 1, 3))
	if !slices.EqualFunc(segs, want, alike) || !slices.EqualFunc(entries, joined(want), like) || !slices.EqualFunc(told, joined(want), like) {
		t.Fatalf("what was told is changed: %v, %v, %v", segs, entries, told)
	}
}

// TestOwnDevice: a recovered log works on the device that was given, and on no other one.
func TestOwnDevice(t *testing.T) {
	d, want := laidOut(t)
	twin := d.Copy()
	l, _ := recovers(t, d, want...)
	if _, e := l.Append(3, nil); e != api.OK {
		t.Fatal(e)
	}
	if e := l.Erase(0); e != api.OK {
		t.Fatal(e)
	}
	tells(t, twin, want...)
	all(t, d, append(joined(want[:3]), api.Entry{At: at(2, 1), Seq: 9, Pages: 1, Kind: 3})...)
}

// TestAgain: the same device is told alike each time, and so is its copy.
func TestAgain(t *testing.T) {
	d, want := laidOut(t)
	for range 5 {
		tells(t, d, want...)
		tells(t, d.Copy(), want...)
		recovers(t, d.Copy(), want...)
	}
}
