package group_test

import (
	"encoding/binary"
	"fmt"
	"hash/crc32"
	"math"
	"slices"
	"strings"
	"sync"
	"testing"

	"spence/api"
	"spence/crash"
	"spence/flash"
	"spence/group"
	"spence/index"
	"spence/seglog"
	"spence/store"
)

// How many objects there are, the kinds of records, and the greatest number of a slice, told by hand.
const (
	objects   = 16
	kindHead  = 1
	kindBind  = 2
	kindPiece = 3
	kindDrop  = 4
	kindPurge = 5
	mostIndex = 4096
)

// shape is a device's: segments, pages of each, bytes of each page.
func shape(segments, pages, bytes int) api.Shape {
	return api.Shape{Segments: segments, Pages: pages, Bytes: bytes}
}

// Small shapes, in whose pages each record has room that has a Tag of a byte, or a body of up to 9. Of tight a segment has room for one, of small for three, of five for four; the greatest record that has room in one of five is of four pages.
var (
	tight = shape(4, 2, 32)
	small = shape(4, 4, 32)
	five  = shape(6, 5, 32)
)

// plan is how a device crashes; lost is one that keeps nothing, kept one that keeps the first 64 pages.
func plan(keep uint64, torn, cut int) api.Plan { return api.Plan{Keep: keep, Torn: torn, Cut: cut} }

var (
	lost = plan(0, -1, 0)
	kept = plan(math.MaxUint64, -1, 0)
)

// A dice tells numbers without a short rule in them, the same ones each time.
type dice uint64

func (x *dice) next(below int) int {
	*x ^= *x << 13
	*x ^= *x >> 7
	*x ^= *x << 17
	return int(uint64(*x) >> 11 % uint64(below))
}

// plan is any crash of so many pages.
func (x *dice) plan(pages, bytes int) api.Plan {
	return plan(uint64(x.next(1<<32))<<32|uint64(x.next(1<<32)), x.next(pages+2)-1, x.next(bytes+2)-1)
}

// seeded is a dice of its own for each seed.
func seeded(seed int) *dice {
	x := dice(88172645463325252 + 7919*seed)
	for range 9 {
		x.next(2)
	}
	return &x
}

// text is so many bytes without a short rule in them; a seed makes others.
func text(length, seed int) string {
	b, x := make([]byte, length), seeded(seed)
	for i := range b {
		b[i] = byte(x.next(255))
	}
	return string(b)
}

// edges are numbers at which something may be wrong.
func edges() []int {
	return []int{math.MinInt, -1 << 32, -17, -1, 0, 1, 2, 3, 4, 5, 6, 15, 16, 17, 63, 64, 65, 255, 256, 4096, 4097, 1 << 16, 1 << 31, 1 << 32, 1<<32 + 1, math.MaxInt}
}

// nobodys are Stores that nobody made.
func nobodys() []*store.Store {
	var none *store.Store
	failed, _ := store.New(nil)
	unopened, _ := store.Open(&flash.Device{})
	return []*store.Store{nil, none, {}, new(store.Store), failed, unopened, none.Copy(), new(store.Store).Copy()}
}

// use is a Use: a segment, and its pages.
func use(seg, live, dead, free int) group.Use {
	return group.Use{Seg: seg, Live: live, Dead: dead, Free: free}
}

// none is what a segment has that there isn't.
func none(seg int) group.Use { return group.Use{Seg: seg} }

// begun is a new Store.
func begun(t *testing.T, s api.Shape) *store.Store {
	t.Helper()
	d, e := flash.New(s)
	if e != api.OK {
		t.Fatalf("flash.New(%v): error %d", s, e)
	}
	x, e := store.New(d)
	if e != api.OK {
		t.Fatalf("store.New: error %d", e)
	}
	return x
}

// opened is the Store of a device.
func opened(t *testing.T, d *flash.Device) *store.Store {
	t.Helper()
	s, e := store.Open(d)
	if e != api.OK {
		t.Fatalf("store.Open: error %d", e)
	}
	return s
}

// behind is the Store behind a crash; the one that it was is as it was.
func behind(t *testing.T, s *store.Store, c api.Plan) *store.Store {
	t.Helper()
	return opened(t, crash.After(s.Log().Device(), c))
}

// deed is one of a Store.
type deed struct {
	name string
	do   func(s *store.Store) api.Errno
}

func binds(object int, tag string, length, tick int) deed {
	return deed{fmt.Sprintf("Bind(%d, %q, %d, %d)", object, tag, length, tick), func(s *store.Store) api.Errno {
		_, e := s.Bind(object, tag, length, tick)
		return e
	}}
}

// gen is the generation of an object's bind.
func gen(s *store.Store, object int) int {
	b, _ := s.Index().Get(object)
	return b.Gen
}

func touches(object, tick int) deed {
	return deed{fmt.Sprintf("Touch(%d, .., %d)", object, tick), func(s *store.Store) api.Errno {
		return s.Touch(object, gen(s, object), tick)
	}}
}

func puts(object, i int, body string) deed {
	return deed{fmt.Sprintf("Put(%d, .., %d, %q)", object, i, body), func(s *store.Store) api.Errno {
		return s.Put(object, gen(s, object), i, []byte(body))
	}}
}

func drops(object int) deed {
	return deed{fmt.Sprintf("Drop(%d)", object), func(s *store.Store) api.Errno { return s.Drop(object) }}
}

func purges(object int) deed {
	return deed{fmt.Sprintf("Purge(%d)", object), func(s *store.Store) api.Errno { return s.Purge(object) }}
}

func cleans(seg int) deed {
	return deed{fmt.Sprintf("Clean(%d)", seg), func(s *store.Store) api.Errno { return s.Clean(seg) }}
}

func syncs() deed {
	return deed{"Sync()", func(s *store.Store) api.Errno { s.Sync(); return api.OK }}
}

// seals is one past the Store.
func seals() deed {
	return deed{"Log().Seal()", func(s *store.Store) api.Errno { s.Log().Seal(); return api.OK }}
}

// does holds that deeds are done; what there is behind each is as it lies on the device.
func does(t *testing.T, s *store.Store, l ...deed) {
	t.Helper()
	for _, d := range l {
		if e := d.do(s); e != api.OK {
			t.Fatalf("%s: error %d", d.name, e)
		}
		agrees(t, s)
	}
}

// What lies on a device, told by its bytes: without frame, segment, codec, replay and index.

// note is a record: what it is of, where it is, and how many pages it has.
type note struct {
	seg, page, pages     int
	seq                  uint64
	kind                 byte
	object, gen, i, tick int
}

// framed is the record that bytes begin with, and how many of them it has; 0, if it isn't whole.
func framed(b []byte) (note, []byte, int) {
	if len(b) < 16 || b[0] != 0xA5 {
		return note{}, nil, 0
	}
	end := 12 + int(binary.BigEndian.Uint16(b[2:4]))
	if end > 12+4096 || end+4 > len(b) || binary.LittleEndian.Uint32(b[end:]) != crc32.ChecksumIEEE(b[:end]) {
		return note{}, nil, 0
	}
	return note{kind: b[1], seq: binary.BigEndian.Uint64(b[4:12])}, b[12:end], end + 4
}

// says is what a right record of kinds 2 to 5 says; the kind is 0 of another one.
func (n note) says(data []byte) note {
	if n.kind < kindBind || n.kind > kindPurge || len(data) < 5 {
		n.kind = 0
		return n
	}
	n.object, n.gen = int(data[0]), int(binary.BigEndian.Uint32(data[1:5]))
	switch n.kind {
	case kindBind:
		n.tick = int(binary.BigEndian.Uint64(data[7:15]))
	case kindPiece:
		n.i = int(binary.BigEndian.Uint16(data[5:7]))
	}
	return n
}

// notes are the records of a device's segments, each up to the first that isn't right, in the order in which they were put.
func notes(d *flash.Device) []note {
	var out []note
	for seg := range d.Shape().Segments {
		var raw []byte
		for page := range d.Shape().Pages {
			b, _ := d.Read(seg, page)
			raw = append(raw, b...)
		}
		head, data, size := framed(raw)
		if head.kind != kindHead || len(data) > 0 {
			continue
		}
		for page := 0; ; {
			page += (size + d.Shape().Bytes - 1) / d.Shape().Bytes
			var n note
			n, data, size = framed(raw[page*d.Shape().Bytes:])
			if size == 0 || n.kind == kindHead || n.seq != head.seq {
				break
			}
			n = n.says(data)
			n.seg, n.page, n.pages = seg, page, (size+d.Shape().Bytes-1)/d.Shape().Bytes
			out = append(out, n)
		}
	}
	slices.SortStableFunc(out, func(a, b note) int { return int(int64(a.seq) - int64(b.seq)) })
	return out
}

// needed are the records of an object that there must be: those of its bind and its slices, and that of its floor.
func needed(l []note, object int) (bound []note, tomb []note) {
	floor, most := 0, 0
	for _, n := range l {
		if n.object == object && (n.kind == kindDrop || n.kind == kindPurge) && n.gen >= floor {
			floor, tomb = n.gen, []note{n}
		}
	}
	var bind note
	for _, n := range l {
		if n.object == object && n.kind == kindBind && n.gen > floor && (n.gen > most || n.gen == most && n.tick >= bind.tick) {
			most, bind = n.gen, n
		}
	}
	if most == 0 {
		return nil, tomb
	}
	pieces := map[int]note{}
	for _, n := range l {
		if n.object == object && n.kind == kindPiece && n.gen == most {
			pieces[n.i] = n
		}
	}
	bound = []note{bind}
	for _, n := range pieces {
		bound = append(bound, n)
	}
	return bound, tomb
}

// tally is what group must tell of a Store whose index is as its device says.
type tally struct {
	uses   []group.Use
	room   int
	weight [objects]int
	needs  [objects][]int
	heavy  int // -1 without
	least  int // -1 without
}

// tallied counts what lies on a Store's device, page by page.
func tallied(s *store.Store) tally {
	d := s.Log().Device()
	x := tally{heavy: -1, least: -1}
	for seg := range d.Shape().Segments {
		u := use(seg, 0, d.Shape().Pages, 0)
		for page := range d.Shape().Pages {
			if !d.Used(seg, page) {
				u.Free++
				u.Dead--
				x.room++
			}
		}
		x.uses = append(x.uses, u)
	}
	all := notes(d)
	for object := range objects {
		bound, tomb := needed(all, object)
		for _, n := range append(slices.Clone(bound), tomb...) {
			x.uses[n.seg].Live += n.pages
			x.uses[n.seg].Dead -= n.pages
		}
		segs := map[int]int{}
		for _, n := range bound {
			x.weight[object] += n.pages
			segs[n.seg]++
		}
		for seg := range d.Shape().Segments {
			if segs[seg] > 0 {
				x.needs[object] = append(x.needs[object], seg)
			}
		}
		if len(bound) > 0 && (x.heavy < 0 || x.weight[object] > x.weight[x.heavy]) {
			x.heavy = object
		}
	}
	for seg, u := range x.uses {
		if s.Log().State(seg) == seglog.Sealed && u.Live < d.Shape().Pages-1 && (x.least < 0 || u.Live < x.uses[x.least].Live) {
			x.least = seg
		}
	}
	return x
}

// same holds that a number is told, and true; of -1 it is 0 and false.
func same(t *testing.T, name string, n int, is bool, want int) {
	t.Helper()
	if is != (want >= 0) || n != max(want, 0) {
		t.Fatalf("%s: %d, %v; want %d", name, n, is, want)
	}
}

// tells holds that group tells that of a Store, twice, and that the Store stays as it was.
func tells(t *testing.T, s *store.Store, want tally) {
	t.Helper()
	was := s.Copy()
	for range 2 {
		if got := group.All(s); !slices.Equal(got, want.uses) {
			t.Fatalf("All: %v; want %v", got, want.uses)
		}
		for seg, u := range want.uses {
			if got := group.Of(s, seg); got != u {
				t.Fatalf("Of(%d): %v; want %v", seg, got, u)
			}
			if u.Live+u.Dead+u.Free != s.Log().Device().Shape().Pages {
				t.Fatalf("Of(%d): %v are not all pages", seg, u)
			}
		}
		for _, seg := range []int{-1, len(want.uses), len(want.uses) + 1} {
			if got := group.Of(s, seg); got != none(seg) {
				t.Fatalf("Of(%d): %v", seg, got)
			}
		}
		if got := group.Room(s); got != want.room {
			t.Fatalf("Room: %d; want %d", got, want.room)
		}
		for object := -1; object <= objects; object++ {
			pages, segs := 0, []int(nil)
			if object >= 0 && object < objects {
				pages, segs = want.weight[object], want.needs[object]
			}
			if got := group.Object(s, object); got != pages {
				t.Fatalf("Object(%d): %d; want %d", object, got, pages)
			}
			if got := group.Needs(s, object); !slices.Equal(got, segs) {
				t.Fatalf("Needs(%d): %v; want %v", object, got, segs)
			}
		}
		object, is := group.Heaviest(s)
		same(t, "Heaviest", object, is, want.heavy)
		seg, is := group.Least(s)
		same(t, "Least", seg, is, want.least)
	}
	sameStore(t, s, was)
}

// agrees holds that group tells what lies on the device.
func agrees(t *testing.T, s *store.Store) {
	t.Helper()
	tells(t, s, tallied(s))
}

// uses holds that these are all Uses, told by hand.
func uses(t *testing.T, s *store.Store, want ...group.Use) {
	t.Helper()
	room, pages := 0, s.Log().Device().Shape().Pages
	for seg, u := range want {
		if got := group.Of(s, seg); got != u || u.Live+u.Dead+u.Free != pages {
			t.Fatalf("Of(%d): %+v; want %+v", seg, got, u)
		}
		room += u.Free
	}
	if got := group.All(s); !slices.Equal(got, want) {
		t.Fatalf("All: %+v; want %+v", got, want)
	}
	if got := group.Room(s); got != room {
		t.Fatalf("Room: %d; want %d", got, room)
	}
}

// weighs holds how many pages an object has, and in which segments, told by hand.
func weighs(t *testing.T, s *store.Store, object, pages int, segs ...int) {
	t.Helper()
	if got := group.Object(s, object); got != pages {
		t.Fatalf("Object(%d): %d; want %d", object, got, pages)
	}
	if got := group.Needs(s, object); !slices.Equal(got, segs) {
		t.Fatalf("Needs(%d): %v; want %v", object, got, segs)
	}
}

// heaviest holds which object is, -1 without any.
func heaviest(t *testing.T, s *store.Store, want int) {
	t.Helper()
	object, is := group.Heaviest(s)
	same(t, "Heaviest", object, is, want)
}

// least holds which segment is, -1 without any.
func least(t *testing.T, s *store.Store, want int) {
	t.Helper()
	seg, is := group.Least(s)
	same(t, "Least", seg, is, want)
}

// sameDevice holds that a device is as another one: the same bytes, and the same pages that aren't lasting, in their order.
func sameDevice(t *testing.T, d, want *flash.Device) {
	t.Helper()
	if !crash.Same(d, want) || d.Dirty() != want.Dirty() {
		t.Fatalf("the device has the pages %v, %d of them not lasting; want %v, %d, or others of its bytes", crash.Pages(d), d.Dirty(), crash.Pages(want), want.Dirty())
	}
	for _, c := range []api.Plan{lost, plan(1, -1, 0), plan(0, d.Dirty()-1, 256)} {
		if !crash.Same(crash.After(d, c), crash.After(want, c)) {
			t.Fatal("other pages aren't lasting")
		}
	}
}

// sameStore holds that a Store is as another one.
func sameStore(t *testing.T, s, want *store.Store) {
	t.Helper()
	if !index.Same(s.Index(), want.Index()) {
		t.Fatal("the index is another one")
	}
	l, other := s.Log(), want.Log()
	seg, page := l.Open()
	if a, b := other.Open(); seg != a || page != b || l.Next() != other.Next() {
		t.Fatalf("the log is at page %d of segment %d, next %d; want %d, %d, %d", page, seg, l.Next(), b, a, other.Next())
	}
	for seg := range l.Device().Shape().Segments {
		if l.State(seg) != other.State(seg) {
			t.Fatalf("segment %d: state %d; want %d", seg, l.State(seg), other.State(seg))
		}
	}
	sameDevice(t, l.Device(), other.Device())
}

// Records, laid past a Store.

// record is one.
type record struct {
	kind byte
	data []byte
}

// headData is what each record begins with.
func headData(object, gen int) []byte {
	return binary.BigEndian.AppendUint32([]byte{byte(object)}, uint32(gen))
}

func aBind(object, gen, tick int) record {
	out := binary.BigEndian.AppendUint16(headData(object, gen), 20)
	return record{kindBind, append(binary.BigEndian.AppendUint64(out, uint64(tick)), 'a')}
}

func aPiece(object, gen, i int, body string) record {
	return record{kindPiece, append(binary.BigEndian.AppendUint16(headData(object, gen), uint16(i)), body...)}
}

func aDrop(object, gen int) record { return record{kindDrop, headData(object, gen)} }

func aPurge(object, gen int) record { return record{kindPurge, headData(object, gen)} }

// nothing is a record of one page that says nothing.
func nothing() record { return record{9, []byte("abc")} }

// laidOut is a device on which a log has these records, each row in a segment of its own.
func laidOut(t *testing.T, s api.Shape, rows ...[]record) *flash.Device {
	t.Helper()
	d, e := flash.New(s)
	if e != api.OK {
		t.Fatalf("flash.New(%v): error %d", s, e)
	}
	log, _ := seglog.New(d)
	for seg, row := range rows {
		for _, r := range row {
			if at, e := log.Move(r.kind, r.data); e != api.OK || at.Segment != seg {
				t.Fatalf("seglog's Move of %v: %v, error %d; want segment %d", r, at, e, seg)
			}
		}
		log.Seal()
	}
	return d
}

// laid is the Store of a device on which each row of records has a segment of its own, as it lies there.
func laid(t *testing.T, s api.Shape, rows ...[]record) *store.Store {
	t.Helper()
	x := opened(t, laidOut(t, s, rows...))
	agrees(t, x)
	return x
}

// TestNumbersByHand: what the tests tell by hand is what api and codec tell.
func TestNumbersByHand(t *testing.T) {
	if kindHead != api.KindHead || kindBind != api.KindBind || kindPiece != api.KindPiece || kindDrop != api.KindDrop || kindPurge != api.KindPurge || objects != api.MaxObject || mostIndex != api.MaxLength {
		t.Fatal("kinds, objects, slices")
	}
	s := laid(t, five, []record{aBind(3, 7, 1<<40), aPiece(3, 7, 258, "abc"), aDrop(4, 9), aPurge(5, 1<<20)})
	b, is := s.Index().Get(3)
	body, e := s.Get(3, 258)
	if b != (api.Bind{Object: 3, Gen: 7, Tag: "a", Length: 20, Tick: 1 << 40}) || !is || string(body) != "abc" || e != api.OK || s.Index().Floor(4) != 9 || s.Index().Floor(5) != 1<<20 {
		t.Fatalf("%+v, %q, %d, %d", b, body, s.Index().Floor(4), s.Index().Floor(5))
	}
}

// P23.1, P23.4.

// TestExample is the chapter's: of a fresh store all pages are Free; of each shape that a store may have.
func TestExample(t *testing.T) {
	for _, segments := range []int{4, 5, 9, 15, 16} {
		for _, pages := range []int{1, 2, 3, 7, 63, 64} {
			for _, bytes := range []int{16, 17, 255, 256} {
				s := begun(t, shape(segments, pages, bytes))
				var want []group.Use
				for seg := range segments {
					want = append(want, use(seg, 0, 0, pages))
				}
				uses(t, s, want...)
				agrees(t, s)
				if n := group.Room(s); n != segments*pages {
					t.Fatalf("Room: %d of %d", n, segments*pages)
				}
				heaviest(t, s, -1)
				least(t, s, -1)
				weighs(t, s, 0, 0)
			}
		}
	}
}

// TestNoSegment: all is 0 but Seg, whatever the store has.
func TestNoSegment(t *testing.T) {
	full := begun(t, tight)
	does(t, full, binds(0, "a", 20, 5), binds(1, "b", 20, 5), binds(2, "c", 20, 5), drops(2))
	for _, s := range []*store.Store{begun(t, five), begun(t, shape(16, 64, 256)), full, laid(t, five, []record{aBind(1, 1, 5), aDrop(1, 9)})} {
		segments := s.Log().Device().Shape().Segments
		for _, seg := range append(edges(), segments-1, segments, segments+1, -segments, segments+1<<32) {
			if got := group.Of(s, seg); (seg < 0 || seg >= segments) && got != none(seg) || seg >= 0 && seg < segments && (got == none(seg) || got.Seg != seg) {
				t.Fatalf("Of(%d): %+v", seg, got)
			}
		}
	}
}

// step is a deed, and all Uses behind it.
type step struct {
	deed deed
	want []group.Use
}

// walks does steps, and holds what is behind each.
func walks(t *testing.T, s *store.Store, l ...step) {
	t.Helper()
	for _, x := range l {
		does(t, s, x.deed)
		uses(t, s, x.want...)
	}
}

// TestOfSteps: deeds of all kinds, told by hand.
func TestOfSteps(t *testing.T) {
	f := func(seg int) group.Use { return use(seg, 0, 0, 5) }
	walks(t, begun(t, shape(4, 5, 32)),
		step{syncs(), []group.Use{f(0), f(1), f(2), f(3)}},
		step{seals(), []group.Use{f(0), f(1), f(2), f(3)}},
		step{binds(1, "a", 20, 5), []group.Use{use(0, 1, 1, 3), f(1), f(2), f(3)}},
		step{puts(1, 0, "123456789"), []group.Use{use(0, 2, 1, 2), f(1), f(2), f(3)}},
		step{touches(1, 6), []group.Use{use(0, 2, 2, 1), f(1), f(2), f(3)}},
		step{puts(1, 7, "1234567890"), []group.Use{use(0, 2, 2, 1), use(1, 2, 1, 2), f(2), f(3)}}, // Of two pages: it doesn't fit into one.
		step{drops(1), []group.Use{use(0, 0, 4, 1), use(1, 1, 3, 1), f(2), f(3)}},
		step{binds(1, "b", 20, 5), []group.Use{use(0, 0, 4, 1), use(1, 2, 3, 0), f(2), f(3)}}, // To its last page.
		step{cleans(0), []group.Use{f(0), use(1, 2, 3, 0), f(2), f(3)}},
		step{puts(1, 7, strings.Repeat("x", 64)), []group.Use{use(0, 3, 1, 1), use(1, 2, 3, 0), f(2), f(3)}},
		step{touches(1, 5), []group.Use{use(0, 4, 1, 0), use(1, 1, 4, 0), f(2), f(3)}}, // All are Live, but for its head.
		step{cleans(1), []group.Use{use(0, 4, 1, 0), f(1), use(2, 1, 1, 3), f(3)}},     // Its floor is moved.
		step{purges(1), []group.Use{use(0, 0, 5, 0), f(1), use(2, 1, 2, 2), f(3)}},
		step{purges(1), []group.Use{use(0, 0, 5, 0), f(1), use(2, 1, 3, 1), f(3)}},
		step{binds(9, "c", 20, 5), []group.Use{use(0, 0, 5, 0), f(1), use(2, 2, 3, 0), f(3)}},
		step{binds(9, "d", 20, 5), []group.Use{use(0, 0, 5, 0), use(1, 2, 1, 2), use(2, 1, 4, 0), f(3)}},
		step{seals(), []group.Use{use(0, 0, 5, 0), use(1, 2, 1, 2), use(2, 1, 4, 0), f(3)}},
		step{cleans(0), []group.Use{f(0), use(1, 2, 1, 2), use(2, 1, 4, 0), f(3)}},
		step{cleans(1), []group.Use{use(0, 2, 1, 2), f(1), use(2, 1, 4, 0), f(3)}},
		step{cleans(2), []group.Use{use(0, 3, 1, 1), f(1), f(2), f(3)}},
	)
}

// TestOfEachState: the same records in a segment that is open, sealed, found again.
func TestOfEachState(t *testing.T) {
	s := begun(t, small)
	does(t, s, binds(1, "a", 20, 5), touches(1, 6))
	want := []group.Use{use(0, 1, 2, 1), use(1, 0, 0, 4), use(2, 0, 0, 4), use(3, 0, 0, 4)}
	uses(t, s, want...)
	does(t, s, seals())
	uses(t, s, want...)
	for _, c := range []api.Plan{kept, plan(7, -1, 0)} {
		uses(t, behind(t, s, c), want...)
	}
	does(t, s, syncs())
	uses(t, behind(t, s, lost), want...)
	uses(t, s.Copy(), want...)
}

// TestOfLive: each kind of record, where it is Live and where it isn't.
func TestOfLive(t *testing.T) {
	for _, c := range []struct {
		name string
		row  []record
		want group.Use
	}{
		{"a bind", []record{aBind(1, 3, 5)}, use(0, 1, 1, 3)},
		{"a bind that was touched", []record{aBind(1, 3, 5), aBind(1, 3, 6)}, use(0, 1, 2, 2)},
		{"a bind that was touched at its tick", []record{aBind(1, 3, 5), aBind(1, 3, 5)}, use(0, 1, 2, 2)},
		{"a bind that was moved ahead", []record{aBind(1, 3, 6), aBind(1, 3, 5)}, use(0, 1, 2, 2)},
		{"an older bind", []record{aBind(1, 3, 5), aBind(1, 4, 5)}, use(0, 1, 2, 2)},
		{"a slice", []record{aBind(1, 3, 5), aPiece(1, 3, 0, "abc")}, use(0, 2, 1, 2)},
		{"a slice of two pages", []record{aBind(1, 3, 5), aPiece(1, 3, 0, "1234567890")}, use(0, 3, 1, 1)},
		{"a slice of three pages", []record{aBind(1, 3, 5), aPiece(1, 3, 0, text(64, 1))}, use(0, 4, 1, 0)},
		{"a slice of three pages, without a bind", []record{aPiece(1, 3, 0, text(64, 1))}, use(0, 0, 4, 1)},
		{"a slice whose bind was lost", []record{aPiece(1, 3, 0, "abc"), aPiece(1, 4, 0, "abc")}, use(0, 0, 3, 2)},
		{"a slice ahead of its bind", []record{aPiece(1, 3, 0, "abc"), aBind(1, 3, 5)}, use(0, 2, 1, 2)},
		{"a slice of another generation", []record{aBind(1, 3, 5), aPiece(1, 4, 0, "abc"), aPiece(1, 2, 0, "abc")}, use(0, 1, 3, 1)},
		{"a slice of another object", []record{aBind(1, 3, 5), aPiece(2, 3, 0, "abc")}, use(0, 1, 2, 2)},
		{"a slice twice", []record{aBind(1, 3, 5), aPiece(1, 3, 0, "abc"), aPiece(1, 3, 0, "abc")}, use(0, 2, 2, 1)},
		{"two slices", []record{aBind(1, 3, 5), aPiece(1, 3, 0, "abc"), aPiece(1, 3, 4096, "abc")}, use(0, 3, 1, 1)},
		{"a floor", []record{aDrop(1, 3)}, use(0, 1, 1, 3)},
		{"a purge", []record{aPurge(1, 3)}, use(0, 1, 1, 3)},
		{"a floor and an older one", []record{aDrop(1, 3), aPurge(1, 2)}, use(0, 1, 2, 2)},
		{"a floor twice", []record{aDrop(1, 3), aPurge(1, 3)}, use(0, 1, 2, 2)},
		{"two objects' floors", []record{aDrop(1, 3), aPurge(2, 3)}, use(0, 2, 1, 2)},
		{"a bind below a floor", []record{aDrop(1, 3), aBind(1, 3, 5), aPiece(1, 3, 0, "abc")}, use(0, 1, 3, 1)},
		{"a bind above a floor", []record{aBind(1, 4, 5), aDrop(1, 3), aPiece(1, 4, 0, "abc")}, use(0, 3, 1, 1)},
		{"all of them", []record{aBind(1, 4, 5), aDrop(1, 3), aPiece(1, 4, 0, "abc"), aPurge(0, 1)}, use(0, 4, 1, 0)},
		{"what says nothing", []record{nothing(), {kindDrop, []byte("ab")}, {kindBind, nil}, {255, nil}}, use(0, 0, 5, 0)},
		{"nothing", nil, use(0, 0, 0, 5)},
	} {
		t.Run(c.name, func(t *testing.T) {
			s := opened(t, laidOut(t, five, c.row))
			if got := group.Of(s, 0); got != c.want {
				t.Fatalf("Of: %+v; want %+v", got, c.want)
			}
			if n := group.Room(s); n != 25+c.want.Free {
				t.Fatalf("Room: %d", n)
			}
		})
	}
}

// TestOfHead: a segment that has a head alone, and one that has none.
func TestOfHead(t *testing.T) {
	d := laidOut(t, small, []record{aBind(1, 1, 5), aPiece(1, 1, 0, "abc")}, []record{aPiece(1, 1, 1, "de"), aDrop(2, 1)})
	d.Crash(plan(1+8+16+32, -1, 0))
	s := opened(t, d)
	agrees(t, s)
	// Of segment 0 the bind is lost: what is behind it doesn't count, and the slices of segment 1 are nobody's.
	uses(t, s, use(0, 0, 1, 3), use(1, 1, 2, 1), use(2, 0, 0, 4), use(3, 0, 0, 4))
	d = laidOut(t, small, []record{aBind(1, 1, 5), aPiece(1, 1, 0, "abc")}, []record{aPiece(1, 1, 1, "de")})
	d.Crash(plan(2+4+8+16, -1, 0))
	// Without a head a segment is none of a log's: it was erased.
	uses(t, opened(t, d), use(0, 0, 0, 4), use(1, 0, 2, 2), use(2, 0, 0, 4), use(3, 0, 0, 4))
}

// TestOfTorn: a page that is torn is used, and its record isn't Live, nor are those behind it.
func TestOfTorn(t *testing.T) {
	s := begun(t, small)
	does(t, s, binds(1, "a", 20, 5), syncs(), puts(1, 0, "abc"), puts(1, 1, "de"))
	for _, c := range []struct {
		plan api.Plan
		want group.Use
	}{
		{plan(0, 0, 0), use(0, 1, 1, 2)},
		{plan(0, 0, 1), use(0, 1, 2, 1)},
		{plan(0, 0, 25), use(0, 1, 2, 1)},
		{plan(0, 0, 26), use(0, 2, 1, 1)}, // All of it but what the page is filled up with.
		{plan(0, 0, 32), use(0, 2, 1, 1)},
		{plan(2, 0, 9), use(0, 1, 3, 0)},
		{plan(2, -1, 0), use(0, 1, 2, 1)},
		{plan(1, 1, 9), use(0, 2, 2, 0)},
		{plan(1, 1, 25), use(0, 3, 1, 0)},
		{kept, use(0, 3, 1, 0)},
		{lost, use(0, 1, 1, 2)},
	} {
		x := behind(t, s, c.plan)
		if got := group.Of(x, 0); got != c.want {
			t.Fatalf("behind %+v: %+v; want %+v", c.plan, got, c.want)
		}
		agrees(t, x)
	}
}

// TestOfTornPages: a record of three pages of which any are lost or torn is none.
func TestOfTornPages(t *testing.T) {
	s := begun(t, five)
	does(t, s, binds(1, "a", 20, 5), syncs(), puts(1, 0, text(64, 1)))
	for keep := range uint64(8) {
		for torn := -1; torn < 3; torn++ {
			x := behind(t, s, plan(keep, torn, 5))
			agrees(t, x)
			whole, pages := keep == 7 && torn < 0, 2
			for i := range 3 {
				if i == torn || keep>>i&1 == 1 {
					pages++
				}
			}
			want := use(0, 1, pages-1, 5-pages)
			if whole {
				want = use(0, 4, 1, 0)
			}
			if got := group.Of(x, 0); got != want {
				t.Fatalf("Keep %d, Torn %d: %+v; want %+v", keep, torn, got, want)
			}
		}
	}
}

// TestOfByChance: a record may be whole though pages of it aren't used: these count as Live and as Free.
func TestOfByChance(t *testing.T) {
	s := begun(t, shape(4, 9, 16))
	does(t, s, binds(1, "a", 20, 5), syncs(), puts(1, 0, strings.Repeat("\xFF", 64)))
	uses(t, s, use(0, 8, 1, 0), use(1, 0, 0, 9), use(2, 0, 0, 9), use(3, 0, 0, 9))
	for _, c := range []struct {
		keep uint64
		want group.Use
	}{
		{63, use(0, 8, 1, 0)},
		{63 - 4, use(0, 8, 0, 1)},
		{63 - 4 - 8, use(0, 8, -1, 2)},
		{63 - 4 - 8 - 16, use(0, 8, -2, 3)},
		{63 - 1, use(0, 2, 6, 1)},
		{63 - 32, use(0, 2, 6, 1)},
	} {
		x := behind(t, s, plan(c.keep, -1, 0))
		agrees(t, x)
		if got := group.Of(x, 0); got != c.want || got.Live+got.Dead+got.Free != 9 {
			t.Fatalf("Keep %d: %+v; want %+v", c.keep, got, c.want)
		}
		if n := group.Room(x); n != 27+c.want.Free {
			t.Fatalf("Keep %d: Room %d", c.keep, n)
		}
		weighs(t, x, 1, c.want.Live, 0)
	}
}

// TestOfFull: no page is Free, in any segment.
func TestOfFull(t *testing.T) {
	s := begun(t, tight)
	does(t, s, binds(0, "a", 20, 5), binds(1, "b", 20, 5), binds(2, "c", 20, 5), drops(2))
	uses(t, s, use(0, 1, 1, 0), use(1, 1, 1, 0), use(2, 0, 2, 0), use(3, 1, 1, 0))
	if n := group.Room(s); n != 0 {
		t.Fatalf("Room: %d", n)
	}
	big := begun(t, shape(16, 64, 16))
	does(t, big, binds(15, "", 20, 5))
	for i := 0; big.Put(15, 1, i, []byte("a")) == api.OK; i++ {
	}
	agrees(t, big)
	if n := group.Room(big); n != 64+15 {
		t.Fatalf("Room: %d", n) // The bind has two pages, as each slice has: one is left in each segment, and one segment is Free.
	}
	weighs(t, big, 15, 15*62, 0, 1, 2, 3, 4, 5, 6, 7, 8, 9, 10, 11, 12, 13, 14)
}

// TestOfCleanThatEnds: a Clean without room has moved what it could.
func TestOfCleanThatEnds(t *testing.T) {
	s := begun(t, shape(4, 3, 32))
	does(t, s, binds(0, "a", 20, 5), binds(1, "a", 20, 5), binds(2, "a", 20, 5), binds(3, "a", 20, 5), binds(4, "a", 20, 5), purges(4), drops(3))
	uses(t, s, use(0, 2, 1, 0), use(1, 1, 2, 0), use(2, 1, 2, 0), use(3, 1, 1, 1))
	if e := s.Clean(0); e != api.ErrFull {
		t.Fatalf("Clean: error %d", e)
	}
	agrees(t, s)
	uses(t, s, use(0, 1, 2, 0), use(1, 1, 2, 0), use(2, 1, 2, 0), use(3, 2, 1, 0))
}

// TestOfPastTheStore: Free is what isn't used, whatever the log's state; Live is what the segment's records are.
func TestOfPastTheStore(t *testing.T) {
	s := begun(t, small)
	does(t, s, binds(1, "a", 20, 5), puts(1, 0, "abc"))
	s.Log().Device().Write(2, 1, []byte("abc"))
	s.Log().Device().Write(3, 0, nil)
	uses(t, s, use(0, 2, 1, 1), use(1, 0, 0, 4), use(2, 0, 1, 3), use(3, 0, 1, 3))
	s.Log().Device().Erase(2)
	s.Log().Device().Erase(0)
	uses(t, s, use(0, 0, 0, 4), use(1, 0, 0, 4), use(2, 0, 0, 4), use(3, 0, 1, 3))
	x := begun(t, small)
	does(t, x, binds(1, "a", 20, 5))
	for _, r := range []record{nothing(), aBind(1, 1, 6)} {
		if _, e := x.Log().Append(r.kind, r.data); e != api.OK {
			t.Fatalf("seglog's Append: error %d", e)
		}
	}
	// What the index doesn't know isn't Live.
	uses(t, x, use(0, 1, 3, 0), use(1, 0, 0, 4), use(2, 0, 0, 4), use(3, 0, 0, 4))
}

// TestAllRises: each segment has pages of its own.
func TestAllRises(t *testing.T) {
	for segments := 4; segments <= 16; segments++ {
		var rows [][]record
		for seg := range segments - 1 {
			row := []record{aDrop(seg, 1)}
			for range seg % 4 {
				row = append(row, nothing())
			}
			rows = append(rows, row)
		}
		s := laid(t, shape(segments, 6, 32), rows...)
		l := group.All(s)
		for seg, u := range l[:segments-1] {
			if u != use(seg, 1, 1+seg%4, 4-seg%4) {
				t.Fatalf("All: %+v at %d", u, seg)
			}
		}
		if u := l[segments-1]; u != use(segments-1, 0, 0, 6) || len(l) != segments {
			t.Fatalf("All: %+v", l)
		}
	}
}

// P23.2.

// TestObjectSteps: one object, deed by deed, told by hand.
func TestObjectSteps(t *testing.T) {
	s := begun(t, five)
	for _, c := range []struct {
		deed  deed
		pages int
		segs  []int
	}{
		{syncs(), 0, nil},
		{binds(2, "x", 20, 5), 0, nil},
		{binds(3, "a", 20, 5), 1, []int{0}},
		{puts(3, 1, "123456789"), 2, []int{0}},
		{touches(3, 6), 2, []int{0}},
		{puts(3, 0, "1234567890"), 4, []int{0, 1}},
		{puts(2, 0, "abc"), 4, []int{0, 1}},
		{touches(3, 7), 4, []int{0, 1}},
		{puts(3, 4096, text(64, 1)), 7, []int{0, 1, 2}},
		{puts(3, 3, "x"), 8, []int{0, 1, 2}},
		{seals(), 8, []int{0, 1, 2}},
		{cleans(0), 8, []int{1, 2, 3}},
		{touches(3, 8), 8, []int{1, 2, 3}},
		{cleans(1), 8, []int{0, 2, 3}},
		{binds(3, "b", 20, 5), 1, []int{1}},
		{puts(3, 0, text(42, 1)), 4, []int{1}},
		{drops(3), 0, nil},
		{binds(3, "c", 20, 5), 1, []int{4}},
		{cleans(0), 1, []int{4}},
		{puts(3, 9, text(41, 1)), 3, []int{0, 4}},
		{purges(3), 0, nil},
		{purges(3), 0, nil},
	} {
		does(t, s, c.deed)
		weighs(t, s, 3, c.pages, c.segs...)
	}
}

// TestObjectOfLaid: what its records have, as they lie there.
func TestObjectOfLaid(t *testing.T) {
	b, p := aBind(1, 3, 5), aPiece(1, 3, 0, "abc")
	two, three := aPiece(1, 3, 1, "1234567890"), aPiece(1, 3, 2, text(64, 1))
	for _, c := range []struct {
		name  string
		rows  [][]record
		pages int
		segs  []int
	}{
		{"no record", nil, 0, nil},
		{"slices alone", [][]record{{p, two}, {three}}, 0, nil},
		{"another object's", [][]record{{aBind(2, 3, 5), aPiece(2, 3, 0, "abc")}, {aBind(0, 3, 5)}}, 0, nil},
		{"a floor alone", [][]record{{aDrop(1, 3)}}, 0, nil},
		{"a bind alone", [][]record{{b}}, 1, []int{0}},
		{"a bind far off", [][]record{{nothing()}, {nothing()}, {b}}, 1, []int{2}},
		{"a bind and a floor elsewhere", [][]record{{aDrop(1, 2)}, {b}}, 1, []int{1}},
		{"a bind that is gone", [][]record{{aPurge(1, 3)}, {b, p}}, 0, nil},
		{"all in one segment", [][]record{{nothing()}, {b, two, p}}, 4, []int{1}},
		{"a bind behind its slices", [][]record{{p}, {two}, {three}, {b}}, 7, []int{0, 1, 2, 3}},
		{"a bind ahead of its slices", [][]record{{b}, {nothing()}, {three}, {two}, {p}}, 7, []int{0, 2, 3, 4}},
		{"a slice twice", [][]record{{b}, {p}, {p}}, 2, []int{0, 2}},
		{"a slice twice, of other lengths", [][]record{{b}, {aPiece(1, 3, 0, text(20, 1))}, {p}}, 2, []int{0, 2}},
		{"a bind known later", [][]record{{b}, {p}, {aBind(1, 3, 6)}}, 2, []int{1, 2}},
		{"a bind known earlier", [][]record{{b}, {p}, {aBind(1, 3, 4)}}, 2, []int{0, 1}},
		{"an older bind", [][]record{{b, p}, {aBind(1, 4, 5)}, {aPiece(1, 4, 0, text(20, 1))}}, 3, []int{1, 2}},
		{"a slice of another generation", [][]record{{aPiece(1, 4, 0, "abc")}, {b}, {aPiece(1, 2, 0, "abc")}}, 1, []int{1}},
		{"slices falling", [][]record{{aPiece(1, 3, 9, "abc"), aPiece(1, 3, 8, "abc")}, {aPiece(1, 3, 7, "abc"), b}, {aPiece(1, 3, 6, "abc")}}, 5, []int{0, 1, 2}},
		{"slices back and forth", [][]record{{aPiece(1, 3, 9, "abc"), aPiece(1, 3, 1, "abc")}, {aPiece(1, 3, 7, "abc"), b}, {aPiece(1, 3, 0, "abc"), aPiece(1, 3, 8, "abc")}}, 6, []int{0, 1, 2}},
		{"the last slice", [][]record{{b}, {aPiece(1, 3, 4096, "abc")}}, 2, []int{0, 1}},
	} {
		t.Run(c.name, func(t *testing.T) {
			s := laid(t, five, c.rows...)
			weighs(t, s, 1, c.pages, c.segs...)
		})
	}
}

// TestObjectOrder: segments rise, however their numbers stand to the slices'.
func TestObjectOrder(t *testing.T) {
	row := []int{3, 1, 4, 0, 5, 2}
	for turn := range row {
		var rows [][]record
		for seg := range row {
			i := row[(seg+turn)%len(row)]
			rows = append(rows, []record{aPiece(1, 1, i, text(10*i+1, i)), aDrop(2+seg, 1)})
		}
		rows[turn] = append(rows[turn], aBind(1, 1, 5))
		s := laid(t, shape(7, 6, 32), rows...)
		weighs(t, s, 1, 1+1+2+2+2+2+3, 0, 1, 2, 3, 4, 5)
	}
}

// TestObjectThatMayNotBe has nothing.
func TestObjectThatMayNotBe(t *testing.T) {
	s := begun(t, shape(4, 64, 32))
	for object := range objects {
		does(t, s, binds(object, "a", 20, 5), puts(object, 0, "abc"))
	}
	for _, object := range append(edges(), -16, 32, 1<<8+1, 1<<63-16) {
		if object < 0 || object >= objects {
			weighs(t, s, object, 0)
			continue
		}
		weighs(t, s, object, 2, 0)
	}
}

// TestObjectLengths: a slice of each length, in pages of many sizes.
func TestObjectLengths(t *testing.T) {
	for _, bytes := range []int{16, 17, 32, 40, 64, 87, 88, 256} {
		s := begun(t, shape(6, 64, bytes))
		does(t, s, binds(1, strings.Repeat("t", 40), 4096, 5))
		pages := (16+15+40-1)/bytes + 1
		weighs(t, s, 1, pages, 0)
		for _, n := range []int{1, 2, 8, 9, 10, 11, 25, 41, 42, 63, 64} {
			does(t, s, puts(1, n, text(n, n)))
			pages += (16+7+n-1)/bytes + 1
			if got := group.Object(s, 1); got != pages {
				t.Fatalf("Object: %d; want %d", got, pages)
			}
		}
	}
}

// TestObjectPastTheStore: what the log doesn't read has no pages, and is in no segment.
func TestObjectPastTheStore(t *testing.T) {
	s := begun(t, five)
	does(t, s, binds(1, "a", 20, 5), puts(1, 0, "1234567890"), puts(1, 1, "abc"), binds(2, "b", 20, 5), puts(1, 2, text(64, 1)), puts(2, 0, "x"), seals())
	weighs(t, s, 1, 7, 0, 1)
	weighs(t, s, 2, 2, 1, 2)
	for _, c := range []struct {
		erased    []int
		one, two  int
		in, other []int
		heavy     int
	}{
		{[]int{0}, 3, 2, []int{1}, []int{1, 2}, 1},
		{[]int{1}, 4, 1, []int{0}, []int{2}, 1},
		{[]int{2}, 7, 1, []int{0, 1}, []int{1}, 1},
		{[]int{0, 1}, 0, 1, nil, []int{2}, 2},
		{[]int{1, 2}, 4, 0, []int{0}, nil, 1},
		{[]int{0, 1, 2}, 0, 0, nil, nil, 1},
	} {
		x := s.Copy()
		for _, seg := range c.erased {
			x.Log().Erase(seg)
			if u := group.Of(x, seg); u != use(seg, 0, 0, 5) {
				t.Fatalf("Of: %+v", u)
			}
		}
		weighs(t, x, 1, c.one, c.in...)
		weighs(t, x, 2, c.two, c.other...)
		heaviest(t, x, c.heavy)
	}
	for _, c := range []struct {
		gone       int // The page is lost that was written there.
		one, two   int
		zero, next group.Use
	}{
		{0, 7, 2, use(0, 0, 4, 1), use(1, 4, 1, 0)},
		{1, 6, 2, use(0, 0, 4, 1), use(1, 4, 1, 0)},
		{3, 5, 2, use(0, 1, 3, 1), use(1, 4, 1, 0)},
		{4, 6, 2, use(0, 3, 1, 1), use(1, 4, 1, 0)},
		{6, 7, 1, use(0, 4, 1, 0), use(1, 0, 4, 1)},
		{8, 4, 2, use(0, 4, 1, 0), use(1, 1, 3, 1)},
	} {
		x := s.Copy()
		x.Log().Device().Crash(plan(math.MaxUint64&^(1<<c.gone), -1, 0))
		if got := []group.Use{group.Of(x, 0), group.Of(x, 1)}; got[0] != c.zero || got[1] != c.next {
			t.Fatalf("without page %d: %+v", c.gone, got)
		}
		if one, two := group.Object(x, 1), group.Object(x, 2); one != c.one || two != c.two {
			t.Fatalf("without page %d: %d, %d pages", c.gone, one, two)
		}
	}
	s.Log().Device().Crash(lost)
	uses(t, s, use(0, 0, 0, 5), use(1, 0, 0, 5), use(2, 0, 0, 5), use(3, 0, 0, 5), use(4, 0, 0, 5), use(5, 0, 0, 5))
	weighs(t, s, 1, 0)
	weighs(t, s, 2, 0)
	heaviest(t, s, 1)
	least(t, s, 0)
}

// TestHeaviest: by pages, not by slices; the least of several.
func TestHeaviest(t *testing.T) {
	s := begun(t, shape(8, 16, 32))
	heaviest(t, s, -1)
	for _, c := range []struct {
		deed deed
		want int
	}{
		{binds(7, "a", 20, 5), 7},
		{binds(9, "a", 20, 5), 7},
		{binds(3, "a", 20, 5), 3},
		{puts(9, 0, "x"), 9},
		{puts(7, 0, "x"), 7},
		{puts(3, 0, "1234567890"), 3},
		{puts(9, 1, text(42, 1)), 9},
		{puts(7, 1, "x"), 9},
		{puts(7, 2, "x"), 9},
		{puts(7, 3, "x"), 7},
		{puts(7, 4, "x"), 7},
		{binds(0, "a", 20, 5), 7},
		{touches(9, 6), 7},
		{touches(9, 7), 7},
		{seals(), 7},
		{cleans(0), 7},
		{binds(15, "a", 20, 5), 7},
		{puts(15, 0, text(64, 1)), 7},
		{puts(15, 1, text(64, 1)), 15},
		{drops(15), 7},
		{binds(7, "b", 20, 5), 9},
		{purges(9), 3},
		{drops(3), 0},
		{purges(0), 7},
		{purges(7), -1},
		{purges(7), -1},
		{syncs(), -1},
	} {
		does(t, s, c.deed)
		heaviest(t, s, c.want)
	}
}

// TestHeaviestEach object: alone, heaviest by a page, as heavy as the others.
func TestHeaviestEach(t *testing.T) {
	for object := range objects {
		s := begun(t, shape(4, 64, 32))
		does(t, s, binds(object, "a", 20, 5))
		heaviest(t, s, object)
		for other := range objects {
			if other != object {
				does(t, s, binds(other, "a", 20, 5))
			}
		}
		heaviest(t, s, 0)
		does(t, s, puts(object, object, "x"))
		heaviest(t, s, object)
		does(t, s, drops(object))
		heaviest(t, s, (16-object)/16)
	}
}

// TestHeaviestOfSlicesAlone: who has no bind has no pages, however many slices lie about.
func TestHeaviestOfSlicesAlone(t *testing.T) {
	s := laid(t, five, []record{aPiece(1, 3, 0, text(64, 1))}, []record{aPiece(1, 3, 1, text(64, 1))}, []record{aBind(9, 1, 5)})
	heaviest(t, s, 9)
	does(t, s, drops(9))
	heaviest(t, s, -1)
	does(t, s, binds(1, "a", 20, 5))
	heaviest(t, s, 1)
	weighs(t, s, 1, 1, 3)
}

// P23.3.

// lives are rows of records, each with so many Live pages (32 in all, at most), filled up with such as aren't, if told so.
func lives(filled bool, pages int, l ...int) [][]record {
	var out, all [][]record
	for object := range objects {
		all = append(all, []record{aBind(object, 2, 5)}, []record{aDrop(object, 1)})
	}
	there := slices.Concat(all...)
	for _, n := range l {
		row := slices.Clone(there[:n])
		there = there[n:]
		for n == 0 && len(row) == 0 || filled && len(row) < pages-1 {
			row = append(row, nothing())
		}
		out = append(out, row)
	}
	return out
}

// TestLeast: told by hand, of segments of five pages that have so many Live ones.
func TestLeast(t *testing.T) {
	for _, c := range []struct {
		live []int
		want int
	}{
		{nil, -1},
		{[]int{4}, -1}, // Pages less 1.
		{[]int{3}, 0},  // Pages less 2.
		{[]int{0}, 0},
		{[]int{4, 4, 4}, -1},
		{[]int{4, 3, 4}, 1},
		{[]int{4, 4, 3}, 2},
		{[]int{3, 3, 3}, 0},
		{[]int{3, 2, 1}, 2},
		{[]int{1, 2, 3}, 0},
		{[]int{2, 1, 1, 2}, 1},
		{[]int{2, 1, 0, 0, 4}, 2},
		{[]int{4, 1, 0, 1, 0}, 2},
		{[]int{0, 0, 0, 0, 0}, 0},
	} {
		for _, filled := range []bool{false, true} {
			s := laid(t, five, lives(filled, 5, c.live...)...)
			least(t, s, c.want)
		}
	}
}

// TestLeastOfAll: all rows of three segments.
func TestLeastOfAll(t *testing.T) {
	for n := range 5 * 5 * 5 {
		l := []int{n / 25, n / 5 % 5, n % 5}
		want := -1
		for seg, live := range l {
			if live < 4 && (want < 0 || live < l[want]) {
				want = seg
			}
		}
		least(t, laid(t, five, lives(n%2 == 0, 5, l...)...), want)
	}
}

// TestLeastOfMany: the least of many that are alike, wherever they stand.
func TestLeastOfMany(t *testing.T) {
	dice := seeded(5)
	for range 300 {
		l, left, want := []int{}, 32, -1
		floor := dice.next(3)
		for seg := range 15 {
			n := min(left, floor+dice.next(5-floor))
			left -= n
			l = append(l, n)
			if n < 4 && (want < 0 || n < l[want]) {
				want = seg
			}
		}
		least(t, opened(t, laidOut(t, shape(16, 5, 32), lives(false, 5, l...)...)), want)
	}
}

// TestLeastOfPages: Live pages count, not records.
func TestLeastOfPages(t *testing.T) {
	b, two, three := aBind(1, 1, 5), aPiece(1, 1, 0, text(20, 1)), aPiece(1, 1, 1, text(64, 1))
	least(t, laid(t, five, []record{three}, []record{b, aDrop(2, 1)}), 1)
	least(t, laid(t, five, []record{three}, []record{b, two}), 0)
	least(t, laid(t, five, []record{b, three}, []record{two, aDrop(2, 1)}), 1)
	least(t, laid(t, five, []record{b, three}, []record{two, aDrop(2, 1), aDrop(3, 1)}), -1)
	least(t, laid(t, five, []record{three, b}), -1)
	least(t, laid(t, shape(4, 6, 32), []record{three, b}), 0)
}

// TestLeastState: neither the open segment, nor a Free one.
func TestLeastState(t *testing.T) {
	s := begun(t, five)
	does(t, s, binds(1, "a", 20, 5))
	least(t, s, -1)
	does(t, s, puts(1, 0, text(64, 1)))
	least(t, s, -1)
	does(t, s, puts(1, 1, "x"))
	// Segment 0 is Sealed, with all of its pages Live; the open one has one.
	uses(t, s, use(0, 4, 1, 0), use(1, 1, 1, 3), use(2, 0, 0, 5), use(3, 0, 0, 5), use(4, 0, 0, 5), use(5, 0, 0, 5))
	least(t, s, -1)
	does(t, s, touches(1, 6))
	least(t, s, 0)
	does(t, s, seals())
	least(t, s, 1)
	does(t, s, cleans(1))
	least(t, s, 0)
	does(t, s, drops(1))
	least(t, s, 0)
	does(t, s, seals())
	least(t, s, 0)
	does(t, s, cleans(0))
	least(t, s, 2)
	does(t, s, cleans(2))
	least(t, s, -1)
}

// TestLeastOpenHasFewer: an open segment has no Live pages; a Sealed one with more of them is told.
func TestLeastOpenHasFewer(t *testing.T) {
	s := laid(t, five, lives(false, 5, 3, 2)...)
	does(t, s, binds(15, "a", 20, 5), drops(15), binds(15, "b", 20, 5), drops(15))
	if u := group.Of(s, 2); u != use(2, 1, 4, 0) || s.Log().State(2) != seglog.Opened {
		t.Fatalf("Of: %+v", u)
	}
	least(t, s, 1)
}

// TestLeastSmallPages: of segments of one page, of two, of three.
func TestLeastSmallPages(t *testing.T) {
	d, _ := flash.New(shape(4, 1, 32))
	log, _ := seglog.New(d)
	if _, e := log.Append(9, nil); e != api.ErrLong {
		t.Fatalf("seglog's Append: error %d", e)
	}
	// A head alone may lie there: no page is fewer than none.
	second, _ := flash.New(shape(4, 2, 32))
	other, _ := seglog.New(second)
	other.Append(9, nil)
	head, _ := second.Read(0, 0)
	d.Write(0, 0, head)
	s := opened(t, d)
	uses(t, s, use(0, 0, 1, 0), use(1, 0, 0, 1), use(2, 0, 0, 1), use(3, 0, 0, 1))
	if s.Log().State(0) != seglog.Sealed {
		t.Fatalf("state %d", s.Log().State(0))
	}
	least(t, s, -1)
	least(t, laid(t, tight, lives(false, 2, 1, 1)...), -1)
	least(t, laid(t, tight, lives(false, 2, 1, 0)...), 1)
	least(t, laid(t, shape(4, 3, 32), lives(false, 3, 2, 1)...), 1)
	least(t, laid(t, shape(4, 3, 32), lives(false, 3, 1, 1)...), 0)
	least(t, laid(t, shape(4, 3, 32), lives(false, 3, 2, 2, 2)...), -1)
}

// TestNobodyMade: there is nothing of any.
func TestNobodyMade(t *testing.T) {
	for _, s := range nobodys() {
		for _, n := range edges() {
			if u := group.Of(s, n); u != none(n) {
				t.Fatalf("Of(%d): %+v", n, u)
			}
			weighs(t, s, n, 0)
		}
		if l := group.All(s); len(l) != 0 {
			t.Fatalf("All: %v", l)
		}
		if n := group.Room(s); n != 0 {
			t.Fatalf("Room: %d", n)
		}
		heaviest(t, s, -1)
		least(t, s, -1)
	}
}

// Any rows.

// TestRows: all rows of few deeds on small devices, with crashes behind them.
func TestRows(t *testing.T) {
	deeds := []deed{binds(1, "a", 20, 5), binds(2, "b", 20, 5), puts(1, 0, "abc"), puts(1, 1, "1234567890"), touches(1, 6), drops(1), purges(1), purges(2), seals(), cleans(0), cleans(1)}
	n := 0
	var follow func(s *store.Store, left int)
	follow = func(s *store.Store, left int) {
		agrees(t, s)
		if n++; n%5 == 0 {
			agrees(t, behind(t, s, lost))
			agrees(t, behind(t, s, plan(uint64(n), n%7-1, n%33)))
		}
		if left == 0 {
			return
		}
		for _, d := range deeds {
			x := s.Copy()
			d.do(x)
			follow(x, left-1)
		}
	}
	follow(begun(t, shape(4, 3, 32)), 3)
	follow(begun(t, tight), 3)
}

// deed is any one, mostly such that it comes to something.
func (x *dice) deed(s api.Shape, tick int) deed {
	object := x.next(4)
	if x.next(40) == 0 {
		object = []int{15, 9}[x.next(2)]
	}
	switch x.next(13) {
	case 0:
		return binds(object, "abc"[:x.next(3)], x.next(4098), x.next(20))
	case 1, 2, 3, 4, 5:
		body := text(x.next(1+min(66, 2*s.Bytes)), x.next(1000))
		if x.next(4) == 0 {
			body = strings.Repeat("\xFF", len(body)) // Of it pages may be lost without a trace.
		}
		return puts(object, []int{x.next(6), x.next(6), x.next(6), 4095 + x.next(3)}[x.next(4)], body)
	case 6:
		return touches(object, tick+x.next(4))
	case 7:
		if x.next(3) == 0 {
			return purges(object)
		}
		return drops(object)
	case 8:
		return syncs()
	case 9:
		return seals()
	}
	return cleans(x.next(s.Segments+2) - 1)
}

// TestPlays: long rows of any deeds on devices of many shapes; with crashes, behind which each goes on.
func TestPlays(t *testing.T) {
	shapes := []api.Shape{tight, small, shape(4, 3, 64), shape(5, 9, 16), shape(6, 5, 48), shape(4, 12, 20), shape(9, 4, 128), shape(4, 1, 16), shape(16, 2, 256)}
	for seed, shape := range slices.Repeat(shapes, 4) {
		dice := seeded(seed)
		s := begun(t, shape)
		for n := range 150 {
			dice.deed(shape, n/8).do(s)
			agrees(t, s)
			if n%5 == 0 {
				agrees(t, behind(t, s, dice.plan(s.Log().Device().Dirty(), shape.Bytes)))
			}
			if dice.next(25) == 0 {
				s = behind(t, s, dice.plan(s.Log().Device().Dirty(), shape.Bytes))
			}
		}
	}
}

// The rules that hold everywhere.

// TestAnswersAreNobodys: what All and Needs hand out may be changed, also what is behind its length.
func TestAnswersAreNobodys(t *testing.T) {
	s := begun(t, five)
	does(t, s, binds(1, "a", 20, 5), puts(1, 0, text(64, 1)), puts(1, 1, text(64, 2)), puts(1, 2, text(64, 3)), binds(2, "b", 20, 5))
	want := tallied(s)
	l, other := group.All(s), group.All(s)
	n, others := group.Needs(s, 1), group.Needs(s, 1)
	clear(l[:cap(l)])
	for i := range n[:cap(n)] {
		n[:cap(n)][i] = -9
	}
	if !slices.Equal(other, want.uses) || !slices.Equal(others, want.needs[1]) || len(others) != 3 {
		t.Fatalf("two answers share memory: %v, %v", other, others)
	}
	clear(other[:cap(other)])
	clear(others[:cap(others)])
	tells(t, s, want)
}

// TestAnswersStay: what was handed out stays as it was, whatever the Store does.
func TestAnswersStay(t *testing.T) {
	s := begun(t, five)
	does(t, s, binds(1, "a", 20, 5), puts(1, 0, text(64, 1)), puts(1, 1, text(64, 2)))
	want := tallied(s)
	l, n := group.All(s), group.Needs(s, 1)
	does(t, s, touches(1, 9), puts(1, 2, "x"), purges(1), binds(1, "b", 9, 9), seals(), cleans(0), cleans(1), cleans(2))
	s.Log().Device().Crash(lost)
	if !slices.Equal(l, want.uses) || !slices.Equal(n, want.needs[1]) {
		t.Fatalf("what was handed out has changed: %v, %v", l, n)
	}
}

// TestNoOtherState: the same calls come to the same, and many are asked at the same time.
func TestNoOtherState(t *testing.T) {
	s := begun(t, five)
	does(t, s, binds(1, "a", 20, 5), puts(1, 0, text(64, 1)), puts(1, 1, text(64, 2)), binds(2, "b", 20, 5), touches(1, 7))
	other := begun(t, small)
	was := s.Copy()
	want := tallied(s)
	var wait sync.WaitGroup
	for range 4 {
		wait.Go(func() {
			for range 50 {
				object, is := group.Heaviest(s)
				seg, has := group.Least(s)
				if !slices.Equal(group.All(s), want.uses) || group.Object(s, 1) != want.weight[1] || !slices.Equal(group.Needs(s, 1), want.needs[1]) || object != want.heavy || !is || seg != want.least || !has || group.Room(s) != want.room {
					t.Error("another answer")
					return
				}
				if group.Room(other) != 16 || group.Object(other, 1) != 0 {
					t.Error("another Store's answer")
					return
				}
			}
		})
	}
	wait.Wait()
	sameStore(t, s, was)
}
