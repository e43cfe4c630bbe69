package reclaim_test

import (
	"encoding/binary"
	"fmt"
	"hash/crc32"
	"math"
	"slices"
	"sync"
	"testing"

	"spence/api"
	"spence/clock"
	"spence/crash"
	"spence/flash"
	"spence/index"
	"spence/reclaim"
	"spence/seglog"
	"spence/store"
)

// How many objects there are, the kinds of records, what a step may do, and how many steps one Make takes, told by hand.
const (
	objects   = 16
	kindHead  = 1
	kindBind  = 2
	kindPiece = 3
	kindDrop  = 4
	kindPurge = 5
	stuck     = 0
	cleaned   = 1
	evicted   = 2
	atMost    = 64
)

// shape is a device's: segments, pages of each, bytes of each page.
func shape(segments, pages, bytes int) api.Shape {
	return api.Shape{Segments: segments, Pages: pages, Bytes: bytes}
}

// Small shapes, in whose pages each record has room that has a Tag of a byte, or a body of up to 9. Of tight a segment has room for one, of small for three, of five for four; the greatest record that has room in one of five is of four pages.
var (
	tight = shape(4, 2, 32)
	small = shape(4, 4, 32)
	five  = shape(6, 5, 32)
)

// plan is how a device crashes; lost is one that keeps nothing, kept one that keeps the first 64 pages.
func plan(keep uint64, torn, cut int) api.Plan { return api.Plan{Keep: keep, Torn: torn, Cut: cut} }

var (
	lost = plan(0, -1, 0)
	kept = plan(math.MaxUint64, -1, 0)
)

// A dice tells numbers without a short rule in them, the same ones each time.
type dice uint64

func (x *dice) next(below int) int {
	*x ^= *x << 13
	*x ^= *x >> 7
	*x ^= *x << 17
	return int(uint64(*x) >> 11 % uint64(below))
}

// plan is any crash of so many pages.
func (x *dice) plan(pages, bytes int) api.Plan {
	return plan(uint64(x.next(1<<32))<<32|uint64(x.next(1<<32)), x.next(pages+2)-1, x.next(bytes+2)-1)
}

// seeded is a dice of its own for each seed.
func seeded(seed int) *dice {
	x := dice(88172645463325252 + 7919*seed)
	for range 9 {
		x.next(2)
	}
	return &x
}

// text is so many bytes without a short rule in them; a seed makes others.
func text(length, seed int) string {
	b, x := make([]byte, length), seeded(seed)
	for i := range b {
		b[i] = byte(x.next(255))
	}
	return string(b)
}

// edges are numbers at which something may be wrong.
func edges() []int {
	return []int{math.MinInt, -1 << 32, -17, -1, 0, 1, 2, 3, 4, 5, 6, 15, 16, 17, 63, 64, 65, 255, 256, 4096, 4097, 1 << 16, 1 << 31, 1 << 32, 1<<32 + 1, math.MaxInt}
}

// nobodys are Stores that nobody made.
func nobodys() []*store.Store {
	var none *store.Store
	failed, _ := store.New(nil)
	unopened, _ := store.Open(&flash.Device{})
	return []*store.Store{nil, none, {}, new(store.Store), failed, unopened, none.Copy(), new(store.Store).Copy()}
}

// begun is a new Store.
func begun(t *testing.T, s api.Shape) *store.Store {
	t.Helper()
	d, e := flash.New(s)
	if e != api.OK {
		t.Fatalf("flash.New(%v): error %d", s, e)
	}
	x, e := store.New(d)
	if e != api.OK {
		t.Fatalf("store.New: error %d", e)
	}
	return x
}

// opened is the Store of a device.
func opened(t *testing.T, d *flash.Device) *store.Store {
	t.Helper()
	s, e := store.Open(d)
	if e != api.OK {
		t.Fatalf("store.Open: error %d", e)
	}
	return s
}

// behind is the Store behind a crash; the one that it was is as it was.
func behind(t *testing.T, s *store.Store, c api.Plan) *store.Store {
	t.Helper()
	return opened(t, crash.After(s.Log().Device(), c))
}

// deed is one of a Store.
type deed struct {
	name string
	do   func(s *store.Store) api.Errno
}

func binds(object int, tag string, length, tick int) deed {
	return deed{fmt.Sprintf("Bind(%d, %q, %d, %d)", object, tag, length, tick), func(s *store.Store) api.Errno {
		_, e := s.Bind(object, tag, length, tick)
		return e
	}}
}

// gen is the generation of an object's bind.
func gen(s *store.Store, object int) int {
	b, _ := s.Index().Get(object)
	return b.Gen
}

func touches(object, tick int) deed {
	return deed{fmt.Sprintf("Touch(%d, .., %d)", object, tick), func(s *store.Store) api.Errno {
		return s.Touch(object, gen(s, object), tick)
	}}
}

func puts(object, i int, body string) deed {
	return deed{fmt.Sprintf("Put(%d, .., %d, %q)", object, i, body), func(s *store.Store) api.Errno {
		return s.Put(object, gen(s, object), i, []byte(body))
	}}
}

func drops(object int) deed {
	return deed{fmt.Sprintf("Drop(%d)", object), func(s *store.Store) api.Errno { return s.Drop(object) }}
}

func purges(object int) deed {
	return deed{fmt.Sprintf("Purge(%d)", object), func(s *store.Store) api.Errno { return s.Purge(object) }}
}

func cleans(seg int) deed {
	return deed{fmt.Sprintf("Clean(%d)", seg), func(s *store.Store) api.Errno { return s.Clean(seg) }}
}

func syncs() deed {
	return deed{"Sync()", func(s *store.Store) api.Errno { s.Sync(); return api.OK }}
}

// seals is one past the Store.
func seals() deed {
	return deed{"Log().Seal()", func(s *store.Store) api.Errno { s.Log().Seal(); return api.OK }}
}

// does holds that deeds are done.
func does(t *testing.T, s *store.Store, l ...deed) {
	t.Helper()
	for _, d := range l {
		if e := d.do(s); e != api.OK {
			t.Fatalf("%s: error %d", d.name, e)
		}
	}
}

// What lies on a device, told by its bytes: without frame, segment, codec, replay and index.

// note is a record: what it is of, where it is, and how many pages it has.
type note struct {
	seg, page, pages     int
	seq                  uint64
	kind                 byte
	object, gen, i, tick int
}

// framed is the record that bytes begin with, and how many of them it has; 0, if it isn't whole.
func framed(b []byte) (note, []byte, int) {
	if len(b) < 16 || b[0] != 0xA5 {
		return note{}, nil, 0
	}
	end := 12 + int(binary.BigEndian.Uint16(b[2:4]))
	if end > 12+4096 || end+4 > len(b) || binary.LittleEndian.Uint32(b[end:]) != crc32.ChecksumIEEE(b[:end]) {
		return note{}, nil, 0
	}
	return note{kind: b[1], seq: binary.BigEndian.Uint64(b[4:12])}, b[12:end], end + 4
}

// says is what a right record of kinds 2 to 5 says; the kind is 0 of another one.
func (n note) says(data []byte) note {
	if n.kind < kindBind || n.kind > kindPurge || len(data) < 5 {
		n.kind = 0
		return n
	}
	n.object, n.gen = int(data[0]), int(binary.BigEndian.Uint32(data[1:5]))
	switch n.kind {
	case kindBind:
		n.tick = int(binary.BigEndian.Uint64(data[7:15]))
	case kindPiece:
		n.i = int(binary.BigEndian.Uint16(data[5:7]))
	}
	return n
}

// notes are the records of a device's segments, each up to the first that isn't right, in the order in which they were put.
func notes(d *flash.Device) []note {
	var out []note
	for seg := range d.Shape().Segments {
		var raw []byte
		for page := range d.Shape().Pages {
			b, _ := d.Read(seg, page)
			raw = append(raw, b...)
		}
		head, data, size := framed(raw)
		if head.kind != kindHead || len(data) > 0 {
			continue
		}
		for page := 0; ; {
			page += (size + d.Shape().Bytes - 1) / d.Shape().Bytes
			var n note
			n, data, size = framed(raw[page*d.Shape().Bytes:])
			if size == 0 || n.kind == kindHead || n.seq != head.seq {
				break
			}
			n = n.says(data)
			n.seg, n.page, n.pages = seg, page, (size+d.Shape().Bytes-1)/d.Shape().Bytes
			out = append(out, n)
		}
	}
	slices.SortStableFunc(out, func(a, b note) int { return int(int64(a.seq) - int64(b.seq)) })
	return out
}

// needed are the records of an object that there must be: those of its bind and its slices, and that of its floor.
func needed(l []note, object int) (bound []note, tomb []note) {
	floor, most := 0, 0
	for _, n := range l {
		if n.object == object && (n.kind == kindDrop || n.kind == kindPurge) && n.gen >= floor {
			floor, tomb = n.gen, []note{n}
		}
	}
	var bind note
	for _, n := range l {
		if n.object == object && n.kind == kindBind && n.gen > floor && (n.gen > most || n.gen == most && n.tick >= bind.tick) {
			most, bind = n.gen, n
		}
	}
	if most == 0 {
		return nil, tomb
	}
	pieces := map[int]note{}
	for _, n := range l {
		if n.object == object && n.kind == kindPiece && n.gen == most {
			pieces[n.i] = n
		}
	}
	bound = []note{bind}
	for _, n := range pieces {
		bound = append(bound, n)
	}
	return bound, tomb
}

// tally is what lies on a Store's device.
type tally struct {
	live  []int // pages of each segment
	least int   // -1 without
	worth int   // -1 without
	bound []int // the objects that have a bind
}

// tallied counts what lies on a Store's device, page by page.
func tallied(s *store.Store) tally {
	d := s.Log().Device()
	pages := d.Shape().Pages
	x := tally{live: make([]int, d.Shape().Segments), least: -1, worth: -1}
	all := notes(d)
	for object := range objects {
		bound, tomb := needed(all, object)
		for _, n := range append(slices.Clone(bound), tomb...) {
			x.live[n.seg] += n.pages
		}
		if len(bound) > 0 {
			x.bound = append(x.bound, object)
		}
	}
	for seg, n := range x.live {
		if s.Log().State(seg) == seglog.Sealed && n < pages-1 && (x.least < 0 || n < x.live[x.least]) {
			x.least = seg
		}
	}
	if x.least >= 0 && 2*x.live[x.least] <= pages {
		x.worth = x.least
	}
	return x
}

// What a Store has.

// content is that: the binds, the bodies of objects' slices, the floors.
type content struct {
	binds  map[int]api.Bind
	bodies map[[2]int]string
	floors [objects]int
}

// contentOf is a Store's.
func contentOf(t *testing.T, s *store.Store) content {
	t.Helper()
	c := content{binds: map[int]api.Bind{}, bodies: map[[2]int]string{}}
	for object := range objects {
		c.floors[object] = s.Index().Floor(object)
		if b, is := s.Index().Get(object); is {
			c.binds[object] = b
		}
		for _, i := range s.Index().Slices(object).List() {
			body, e := s.Get(object, i)
			if e != api.OK {
				t.Fatalf("Get(%d, %d): error %d", object, i, e)
			}
			c.bodies[[2]int{object, i}] = string(body)
		}
	}
	return c
}

// same holds that two are alike.
func (c content) same(t *testing.T, name string, o content) {
	t.Helper()
	if fmt.Sprint(c) != fmt.Sprint(o) {
		t.Fatalf("%s: %v; want %v", name, c, o)
	}
}

// keeps holds P25.4: behind a call no body is another one, no floor is lower, and who has a bind has the one that it had, with all its slices; so it is of the Store, of one that is opened anew, and, where all is lasting, behind a crash that keeps nothing.
func keeps(t *testing.T, was content, s *store.Store) {
	t.Helper()
	now := contentOf(t, s)
	contentOf(t, opened(t, s.Log().Device().Copy())).same(t, "opened anew", now)
	if s.Log().Device().Dirty() == 0 {
		contentOf(t, behind(t, s, lost)).same(t, "behind a crash", now)
	}
	for object, floor := range was.floors {
		if now.floors[object] < floor {
			t.Fatalf("the floor of %d went down from %d to %d", object, floor, now.floors[object])
		}
	}
	for object, b := range now.binds {
		if a, is := was.binds[object]; !is || a != b {
			t.Fatalf("the bind of %d is %v; it was %v, %v", object, b, a, is)
		}
	}
	for at, body := range now.bodies {
		if a, is := was.bodies[at]; !is || a != body {
			t.Fatalf("slice %v is %q; it was %q, %v", at, body, a, is)
		}
	}
	for at := range was.bodies {
		_, bound := now.binds[at[0]]
		if _, is := now.bodies[at]; bound && !is {
			t.Fatalf("slice %v is gone, its bind isn't", at)
		}
	}
}

// free is how many segments are Free.
func free(s *store.Store) int {
	n := 0
	for seg := range s.Log().Device().Shape().Segments {
		if s.Log().State(seg) == seglog.Free {
			n++
		}
	}
	return n
}

// Rows of objects, told on paper.

// seat is an object in a ring.
type seat struct {
	object int
	marked bool
}

// o is one that isn't marked, m one that is.
func o(object int) seat { return seat{object, false} }
func m(object int) seat { return seat{object, true} }

// row are seats, from the hand on.
type row []seat

// ring is the Ring of a row.
func (l row) ring() clock.Ring {
	r := clock.New()
	for _, x := range l {
		r = r.Add(x.object)
		if x.marked {
			r = r.Touch(x.object)
		}
	}
	return r
}

// stands holds that a Ring is that of a row.
func (l row) stands(t *testing.T, name string, r clock.Ring) {
	t.Helper()
	var got row
	for _, object := range r.All() {
		got = append(got, seat{object, r.Marked(object)})
	}
	if !slices.Equal(got, l) || r != l.ring() {
		t.Fatalf("%s: the ring is %v; want %v", name, got, l)
	}
}

// turned is a row that stands as a victim leaves it: those that are marked stand behind, if not all are; no mark is left of those that the hand went by.
func (l row) turned() row {
	at := slices.IndexFunc(l, func(x seat) bool { return !x.marked })
	by := len(l)
	if at >= 0 {
		by = at
	}
	out := slices.Clone(l[by:])
	for _, x := range l[:by] {
		out = append(out, o(x.object))
	}
	return out
}

// evict is what Evict does, on paper.
func (l row) evict(s *store.Store) (row, bool) {
	if len(l) == 0 {
		return nil, false
	}
	l = l.turned()
	if slices.Contains(tallied(s).bound, l[0].object) && s.Drop(l[0].object) != api.OK {
		return l, false
	}
	return l[1:], true
}

// step is what Step does, on paper.
func (l row) step(s *store.Store) (int, row) {
	x := tallied(s)
	if x.worth >= 0 && s.Clean(x.worth) != api.OK {
		return stuck, l
	}
	if x.worth >= 0 {
		return cleaned, l
	}
	behind, gone := l.evict(s)
	if gone {
		return evicted, behind
	}
	if x.least >= 0 && s.Clean(x.least) == api.OK {
		return cleaned, behind
	}
	return stuck, behind
}

// make is what Make does, on paper, and how often it did which.
func (l row) make(s *store.Store, need int) (row, bool, [3]int) {
	var did [3]int
	for what, n := cleaned, 0; n < atMost && what != stuck && free(s) < need; n++ {
		what, l = l.step(s)
		did[what]++
	}
	return l, free(s) >= need, did
}

// evicts holds that Evict does what it does on paper: on the Store itself.
func evicts(t *testing.T, s *store.Store, l row) (row, bool) {
	t.Helper()
	paper, was, r := s.Copy(), contentOf(t, s), l.ring()
	want, gone := l.evict(paper)
	got, is := reclaim.Evict(s, r)
	name := fmt.Sprintf("Evict of %v", l)
	if is != gone {
		t.Fatalf("%s: %v; want %v", name, is, gone)
	}
	want.stands(t, name, got)
	l.stands(t, name+", what was handed in", r)
	sameStore(t, s, paper)
	keeps(t, was, s)
	return want, is
}

// steps holds that Step does what it does on paper: on the Store itself.
func steps(t *testing.T, s *store.Store, l row) (int, row) {
	t.Helper()
	paper, was, r := s.Copy(), contentOf(t, s), l.ring()
	what, want := l.step(paper)
	did, got := reclaim.Step(s, r)
	name := fmt.Sprintf("Step with %v", l)
	if did != what {
		t.Fatalf("%s: %d; want %d", name, did, what)
	}
	want.stands(t, name, got)
	l.stands(t, name+", what was handed in", r)
	sameStore(t, s, paper)
	keeps(t, was, s)
	return did, want
}

// makes holds that Make does what it does on paper: on the Store itself.
func makes(t *testing.T, s *store.Store, l row, need int) (row, bool, [3]int) {
	t.Helper()
	paper, was, r := s.Copy(), contentOf(t, s), l.ring()
	want, enough, did := l.make(paper, need)
	got, is := reclaim.Make(s, r, need)
	name := fmt.Sprintf("Make of %d with %v", need, l)
	if is != enough || is != (free(s) >= need) {
		t.Fatalf("%s: %v, and %d are Free; want %v", name, is, free(s), enough)
	}
	want.stands(t, name, got)
	l.stands(t, name+", what was handed in", r)
	sameStore(t, s, paper)
	keeps(t, was, s)
	return want, is, did
}

// worth holds which segment is, -1 without any; the Store stays as it was.
func worth(t *testing.T, s *store.Store, want int) {
	t.Helper()
	was := s.Copy()
	for range 2 {
		seg, is := reclaim.Worth(s)
		if is != (want >= 0) || seg != max(want, 0) {
			t.Fatalf("Worth: %d, %v; want %d", seg, is, want)
		}
	}
	sameStore(t, s, was)
}

// rings holds which objects stand in the Store's ring; the Store stays as it was.
func rings(t *testing.T, s *store.Store, want ...int) {
	t.Helper()
	was := s.Copy()
	var l row
	for _, object := range want {
		l = append(l, o(object))
	}
	l.stands(t, "Ring", reclaim.Ring(s))
	l.stands(t, "Ring again", reclaim.Ring(s))
	sameStore(t, s, was)
}

// agrees holds that Ring and Worth tell what lies on the device.
func agrees(t *testing.T, s *store.Store) {
	t.Helper()
	x := tallied(s)
	worth(t, s, x.worth)
	rings(t, s, x.bound...)
}

// sameDevice holds that a device is as another one: the same bytes, and the same pages that aren't lasting, in their order.
func sameDevice(t *testing.T, d, want *flash.Device) {
	t.Helper()
	if !crash.Same(d, want) || d.Dirty() != want.Dirty() {
		t.Fatalf("the device has the pages %v, %d of them not lasting; want %v, %d, or others of its bytes", crash.Pages(d), d.Dirty(), crash.Pages(want), want.Dirty())
	}
	for _, c := range []api.Plan{lost, plan(1, -1, 0), plan(0, d.Dirty()-1, 256)} {
		if !crash.Same(crash.After(d, c), crash.After(want, c)) {
			t.Fatal("other pages aren't lasting")
		}
	}
}

// sameStore holds that a Store is as another one.
func sameStore(t *testing.T, s, want *store.Store) {
	t.Helper()
	if !index.Same(s.Index(), want.Index()) {
		t.Fatal("the index is another one")
	}
	l, other := s.Log(), want.Log()
	seg, page := l.Open()
	if a, b := other.Open(); seg != a || page != b || l.Next() != other.Next() {
		t.Fatalf("the log is at page %d of segment %d, next %d; want %d, %d, %d", page, seg, l.Next(), b, a, other.Next())
	}
	for seg := range l.Device().Shape().Segments {
		if l.State(seg) != other.State(seg) {
			t.Fatalf("segment %d: state %d; want %d", seg, l.State(seg), other.State(seg))
		}
	}
	sameDevice(t, l.Device(), other.Device())
}

// Records, laid past a Store.

// record is one.
type record struct {
	kind byte
	data []byte
}

// headData is what each record begins with.
func headData(object, gen int) []byte {
	return binary.BigEndian.AppendUint32([]byte{byte(object)}, uint32(gen))
}

func aBind(object, gen, tick int) record {
	out := binary.BigEndian.AppendUint16(headData(object, gen), 20)
	return record{kindBind, append(binary.BigEndian.AppendUint64(out, uint64(tick)), 'a')}
}

func aPiece(object, gen, i int, body string) record {
	return record{kindPiece, append(binary.BigEndian.AppendUint16(headData(object, gen), uint16(i)), body...)}
}

func aDrop(object, gen int) record { return record{kindDrop, headData(object, gen)} }

func aPurge(object, gen int) record { return record{kindPurge, headData(object, gen)} }

// nothing is a record of one page that says nothing.
func nothing() record { return record{9, []byte("abc")} }

// laidOut is a device on which a log has these records, each row in a segment of its own.
func laidOut(t *testing.T, s api.Shape, rows ...[]record) *flash.Device {
	t.Helper()
	d, e := flash.New(s)
	if e != api.OK {
		t.Fatalf("flash.New(%v): error %d", s, e)
	}
	log, _ := seglog.New(d)
	for seg, row := range rows {
		for _, r := range row {
			if at, e := log.Move(r.kind, r.data); e != api.OK || at.Segment != seg {
				t.Fatalf("seglog's Move of %v: %v, error %d; want segment %d", r, at, e, seg)
			}
		}
		log.Seal()
	}
	return d
}

// laid is the Store of a device on which each row of records has a segment of its own, as it lies there.
func laid(t *testing.T, s api.Shape, rows ...[]record) *store.Store {
	t.Helper()
	return opened(t, laidOut(t, s, rows...))
}

// living are rows of records, each with so many Live pages, which are those of an object of its own: a bind, and slices of a page each; filled up with such as aren't Live, if told so.
func living(filled bool, pages int, l ...int) [][]record {
	var out [][]record
	for seg, n := range l {
		var r []record
		for i := range n {
			if i == 0 {
				r = append(r, aBind(seg, 2, 5))
				continue
			}
			r = append(r, aPiece(seg, 2, i, "abc"))
		}
		for len(r) == 0 || filled && len(r) < pages-1 {
			r = append(r, nothing())
		}
		out = append(out, r)
	}
	return out
}

// crowded is a Store of which each segment but the open one has two objects' binds, of two pages each, of six: none is worth it, and to Clean one frees one, and takes another one.
func crowded(t *testing.T) *store.Store {
	t.Helper()
	s := begun(t, shape(4, 6, 32))
	for object := range 5 {
		does(t, s, binds(object, "ab", 20, 5))
	}
	return s
}

// choked is a Store without a Free segment, in whose open one there is no room. Of segments 0 and 1 just one page is Live, of 2 two are; objects 1, 3, 4 and 5 have a bind.
func choked(t *testing.T) *store.Store {
	t.Helper()
	s := begun(t, shape(4, 3, 32))
	for object := range 6 {
		does(t, s, binds(object, "a", 20, 5))
	}
	does(t, s, drops(0), drops(2))
	return s
}

// jammed is a Store without a Free segment, in whose open one there is no room. Of segments 0 to 2 three of five pages are Live; the objects from 0 to 11 have a bind, but for 0, 4 and 8.
func jammed(t *testing.T) *store.Store {
	t.Helper()
	s := begun(t, shape(4, 5, 32))
	for object := range 12 {
		does(t, s, binds(object, "a", 20, 5))
	}
	does(t, s, drops(0), drops(4), drops(8), purges(0))
	return s
}

// TestNumbersByHand: what the tests tell by hand is what api and reclaim tell.
func TestNumbersByHand(t *testing.T) {
	if kindHead != api.KindHead || kindBind != api.KindBind || kindPiece != api.KindPiece || kindDrop != api.KindDrop || kindPurge != api.KindPurge || objects != api.MaxObject {
		t.Fatal("kinds, objects")
	}
	if reclaim.Stuck != stuck || reclaim.Cleaned != cleaned || reclaim.Evicted != evicted {
		t.Fatal("steps")
	}
	for _, c := range []struct {
		s    *store.Store
		live []int
		free int
	}{
		{crowded(t), []int{4, 4, 2, 0}, 1},
		{choked(t), []int{1, 1, 2, 2}, 0},
		{jammed(t), []int{3, 3, 3, 3}, 0},
		{laid(t, five, living(true, 5, 4, 0, 3)...), []int{4, 0, 3, 0, 0, 0}, 3},
	} {
		if x := tallied(c.s); !slices.Equal(x.live, c.live) || free(c.s) != c.free {
			t.Fatalf("%+v, %d are Free; want %v, %d", x, free(c.s), c.live, c.free)
		}
	}
}

// P25.1: Ring.

// TestRing: told by hand, of a Store that goes on.
func TestRing(t *testing.T) {
	s := begun(t, shape(8, 16, 32))
	rings(t, s)
	for _, c := range []struct {
		deed deed
		want []int
	}{
		{syncs(), nil},
		{binds(9, "a", 20, 5), []int{9}},
		{puts(9, 0, "x"), []int{9}},
		{binds(3, "a", 20, 5), []int{3, 9}},
		{binds(15, "a", 20, 5), []int{3, 9, 15}},
		{binds(0, "a", 20, 5), []int{0, 3, 9, 15}},
		{touches(9, 6), []int{0, 3, 9, 15}},
		{binds(9, "b", 20, 5), []int{0, 3, 9, 15}},
		{drops(3), []int{0, 9, 15}},
		{binds(7, "a", 20, 5), []int{0, 7, 9, 15}},
		{purges(15), []int{0, 7, 9}},
		{purges(15), []int{0, 7, 9}},
		{seals(), []int{0, 7, 9}},
		{cleans(0), []int{0, 7, 9}},
		{binds(3, "c", 20, 5), []int{0, 3, 7, 9}},
		{drops(0), []int{3, 7, 9}},
		{drops(9), []int{3, 7}},
		{purges(7), []int{3}},
		{drops(3), nil},
		{syncs(), nil},
	} {
		does(t, s, c.deed)
		rings(t, s, c.want...)
		agrees(t, s)
	}
}

// TestRingOfAll: all sixteen, in whatever order they were bound; then all are Dropped, or Purged, one by one.
func TestRingOfAll(t *testing.T) {
	for seed := range 6 {
		dice, order := seeded(seed), []int{}
		for object := range objects {
			at := dice.next(object + 1)
			order = slices.Insert(order, at, object)
		}
		s := begun(t, shape(6, 30, 32))
		for n, object := range order {
			does(t, s, binds(object, "a", 20, 5))
			want := slices.Clone(order[:n+1])
			slices.Sort(want)
			rings(t, s, want...)
		}
		rings(t, s, 0, 1, 2, 3, 4, 5, 6, 7, 8, 9, 10, 11, 12, 13, 14, 15)
		for n, object := range order {
			does(t, s, []deed{drops(object), purges(object)}[(seed+n)%2])
			want := slices.Clone(order[n+1:])
			slices.Sort(want)
			rings(t, s, want...)
		}
		rings(t, s)
	}
}

// TestRingOfWhatIsThere: neither slices nor a floor alone make a bind; what was lost isn't there.
func TestRingOfWhatIsThere(t *testing.T) {
	rings(t, laid(t, five, []record{aPiece(1, 3, 0, "abc"), aDrop(2, 1), aPurge(4, 1), aBind(9, 1, 5)}, []record{aBind(5, 2, 5), aDrop(5, 2)}), 9)
	s := begun(t, five)
	does(t, s, binds(3, "a", 20, 5), syncs(), binds(1, "a", 20, 5), binds(2, "a", 20, 5))
	rings(t, s, 1, 2, 3)
	rings(t, behind(t, s, lost), 3)
	rings(t, behind(t, s, plan(1, -1, 0)), 1, 3)
}

// TestRingIsAsNew: nobody is marked, and it goes its own way.
func TestRingIsAsNew(t *testing.T) {
	s := begun(t, five)
	does(t, s, binds(3, "a", 20, 5), binds(1, "a", 20, 5))
	r := reclaim.Ring(s)
	if r != clock.New().Add(1).Add(3) || r.Marked(1) || r.Marked(3) {
		t.Fatalf("%v", r)
	}
	touched := r.Touch(1)
	does(t, s, drops(3))
	row{o(1), o(3)}.stands(t, "ahead of a Drop", r)
	row{m(1), o(3)}.stands(t, "Touched", touched)
	rings(t, s, 1)
}

// P25.1: Worth.

// TestWorth: told by hand, of a segment of so many pages: one of which more than so many are Live isn't worth it.
func TestWorth(t *testing.T) {
	for _, c := range []struct{ pages, half int }{{2, 0}, {3, 1}, {4, 2}, {5, 2}, {6, 3}, {7, 3}, {8, 4}, {9, 4}, {63, 31}, {64, 32}} {
		for n := range c.pages {
			want := 0
			if n > c.half {
				want = -1
			}
			for _, filled := range []bool{false, true} {
				s := laid(t, shape(4, c.pages, 32), living(filled, c.pages, n)...)
				worth(t, s, want)
				agrees(t, s)
			}
		}
	}
}

// TestWorthOfMany: that of the fewest Live pages, the least of several, counts alone.
func TestWorthOfMany(t *testing.T) {
	for _, c := range []struct {
		live []int
		want int
	}{
		{nil, -1},
		{[]int{4, 4, 4}, -1}, // group.Least tells none.
		{[]int{4, 3, 3}, -1}, // It tells 1, of which more than half are Live.
		{[]int{3, 2, 4}, 1},
		{[]int{3, 2, 2, 1}, 3},
		{[]int{2, 1, 1, 0}, 3},
		{[]int{1, 2, 1}, 0},
		{[]int{4, 0, 0}, 1},
		{[]int{0, 0, 0, 0, 0}, 0},
	} {
		for _, filled := range []bool{false, true} {
			s := laid(t, five, living(filled, 5, c.live...)...)
			worth(t, s, c.want)
			agrees(t, s)
		}
	}
	for n := range 5 * 5 * 5 {
		agrees(t, laid(t, five, living(n%2 == 0, 5, n/25, n/5%5, n%5)...))
	}
}

// TestWorthOfPages: Live pages count, not records, and Free ones aren't Live.
func TestWorthOfPages(t *testing.T) {
	b, two, three := aBind(1, 1, 5), aPiece(1, 1, 0, text(20, 1)), aPiece(1, 1, 1, text(64, 1))
	worth(t, laid(t, shape(4, 6, 32), []record{three}, []record{b, two, aDrop(2, 1), aDrop(3, 1)}), 0) // Three of six.
	worth(t, laid(t, shape(4, 6, 32), []record{b, three}, []record{two, aDrop(2, 1), aDrop(3, 1)}), -1)
	worth(t, laid(t, shape(4, 5, 32), []record{b, three}, []record{two}), 1)
	worth(t, laid(t, shape(4, 5, 32), []record{b, three}, []record{two, aDrop(2, 1)}), -1)
	worth(t, laid(t, shape(4, 8, 32), []record{three, b}), 0)
	worth(t, laid(t, shape(4, 7, 32), []record{three, b}), -1)
}

// TestWorthGoesOn: neither a Free segment nor the open one; told by hand, of a Store that goes on.
func TestWorthGoesOn(t *testing.T) {
	s := begun(t, five)
	worth(t, s, -1)
	for _, c := range []struct {
		deed deed
		want int
	}{
		{binds(1, "a", 20, 5), -1},
		{puts(1, 0, "x"), -1},
		{puts(1, 1, "x"), -1},
		{puts(1, 2, "x"), -1},
		{puts(1, 3, "x"), -1}, // Segment 0 is Sealed: four of its pages are Live.
		{binds(2, "a", 20, 5), -1},
		{touches(1, 6), -1}, // Three are.
		{seals(), -1},       // So they are in segment 1.
		{touches(2, 6), 1},  // There are two.
		{cleans(1), -1},     // They are in the open one, segment 2.
		{purges(1), 0},
		{cleans(0), -1},
		{seals(), 2}, // The bind of 2, and the floor of 1.
		{cleans(2), -1},
		{binds(3, "a", 9, 9), -1},
		{drops(3), -1},            // The open one is full: with the floor of 3 there are three.
		{binds(3, "a", 9, 9), -1}, // It is Sealed.
		{touches(2, 9), 0},
		{cleans(0), -1},
	} {
		does(t, s, c.deed)
		worth(t, s, c.want)
		agrees(t, s)
	}
}

// P25.1: Evict.

// three is a Store of three objects, of which each has slices.
func three(t *testing.T) *store.Store {
	t.Helper()
	s := begun(t, five)
	for object := 1; object < 4; object++ {
		does(t, s, binds(object, "a", 20, 5), puts(object, 0, "abc"), puts(object, 3, text(20, object)))
	}
	return s
}

// TestEvict: told by hand; behind it those have a bind that are left.
func TestEvict(t *testing.T) {
	for _, c := range []struct {
		ring, want row
		is         bool
		left       []int
	}{
		{nil, nil, false, []int{1, 2, 3}},
		{row{o(1)}, nil, true, []int{2, 3}},
		{row{m(1)}, nil, true, []int{2, 3}},
		{row{o(2)}, nil, true, []int{1, 3}},
		{row{o(9)}, nil, true, []int{1, 2, 3}}, // It has no bind: that is none's fault.
		{row{m(9)}, nil, true, []int{1, 2, 3}},
		{row{o(9), o(2)}, row{o(2)}, true, []int{1, 2, 3}},
		{row{m(9), o(2)}, row{o(9)}, true, []int{1, 3}},
		{row{o(1), o(2), o(3)}, row{o(2), o(3)}, true, []int{2, 3}},
		{row{o(3), o(2), o(1)}, row{o(2), o(1)}, true, []int{1, 2}},
		{row{o(1), m(2), m(3)}, row{m(2), m(3)}, true, []int{2, 3}},
		{row{m(1), o(2), m(3)}, row{m(3), o(1)}, true, []int{1, 3}},
		{row{m(3), m(1), o(2)}, row{o(3), o(1)}, true, []int{1, 3}},
		{row{m(1), m(2), m(3)}, row{o(2), o(3)}, true, []int{2, 3}},
		{row{m(3), m(2), m(1)}, row{o(2), o(1)}, true, []int{1, 2}},
		{row{m(0), m(15), m(3), o(7), m(1), o(2)}, row{m(1), o(2), o(0), o(15), o(3)}, true, []int{1, 2, 3}},
	} {
		s := three(t)
		r := c.ring.ring()
		got, is := reclaim.Evict(s, r)
		if is != c.is {
			t.Fatalf("Evict of %v: %v", c.ring, is)
		}
		c.want.stands(t, fmt.Sprintf("Evict of %v", c.ring), got)
		c.ring.stands(t, "what was handed in", r)
		rings(t, s, c.left...)
		evicts(t, three(t), c.ring)
	}
}

// TestEvictToTheEnd: all of a ring go, one by one; who was touched goes behind those who weren't.
func TestEvictToTheEnd(t *testing.T) {
	s := begun(t, shape(8, 16, 32))
	var l row
	for object := range objects {
		does(t, s, binds(object, "a", 20, 5), puts(object, 1, "abc"))
		l = append(l, seat{object, object%3 == 0})
	}
	for _, object := range []int{1, 2, 4, 5, 7, 8, 10, 11, 13, 14, 0, 3, 6, 9, 12, 15} {
		if _, is := s.Index().Get(object); !is {
			t.Fatalf("%d has gone ahead of its turn", object)
		}
		l, _ = evicts(t, s, l)
		if _, is := s.Index().Get(object); is || s.Index().Floor(object) != 1 {
			t.Fatalf("%d hasn't gone", object)
		}
	}
	if l, is := evicts(t, s, l); is || len(l) > 0 {
		t.Fatal("there is still one")
	}
}

// TestEvictWithoutRoom: the Drop has none: the ring is as Victim left it, nobody is Removed, nothing is Dropped.
func TestEvictWithoutRoom(t *testing.T) {
	for _, c := range []struct{ ring, want row }{
		{row{o(1)}, row{o(1)}},
		{row{m(1)}, row{o(1)}},
		{row{m(1), o(3), m(5)}, row{o(3), m(5), o(1)}},
		{row{m(3), m(1)}, row{o(3), o(1)}},
		{row{m(9), o(1)}, row{o(1), o(9)}},
	} {
		s := choked(t)
		was := s.Copy()
		got, is := reclaim.Evict(s, c.ring.ring())
		if is {
			t.Fatalf("Evict of %v: true", c.ring)
		}
		c.want.stands(t, fmt.Sprintf("Evict of %v", c.ring), got)
		sameStore(t, s, was)
		evicts(t, choked(t), c.ring)
		evicts(t, jammed(t), c.ring)
	}
	// Who has no bind needs no room.
	s := choked(t)
	was := s.Copy()
	got, is := reclaim.Evict(s, row{m(3), o(2)}.ring())
	row{o(3)}.stands(t, "Evict of 2", got)
	if !is {
		t.Fatal("Evict of 2: false")
	}
	sameStore(t, s, was)
}

// TestEvictLastRoom: a Drop takes the last Free segment, and the last page.
func TestEvictLastRoom(t *testing.T) {
	s := begun(t, shape(4, 3, 32))
	var l row
	for object := range 6 {
		does(t, s, binds(object, "a", 20, 5))
		l = append(l, o(object))
	}
	for n, want := range []int{0, 0} {
		var is bool
		if l, is = evicts(t, s, l); !is || free(s) != want || len(l) != 5-n {
			t.Fatalf("Evict %d: %v, %v, %d are Free", n, l, is, free(s))
		}
	}
	if l, is := evicts(t, s, l); is || len(l) != 4 {
		t.Fatalf("Evict without room: %v, %v", l, is)
	}
}

// P25.2.

// TestStep: told by hand.
func TestStep(t *testing.T) {
	f := func(live ...int) func(t *testing.T) *store.Store {
		return func(t *testing.T) *store.Store {
			t.Helper()
			return laid(t, five, living(true, 5, live...)...)
		}
	}
	for _, c := range []struct {
		name       string
		begun      func(t *testing.T) *store.Store
		ring, want row
		what       int
		live       []int // behind it
	}{
		{"worth it", f(4, 2, 3), row{m(0), o(2)}, row{m(0), o(2)}, cleaned, []int{4, 0, 3, 2, 0, 0}},
		{"worth it, a ring of none", f(4, 2, 3), nil, nil, cleaned, []int{4, 0, 3, 2, 0, 0}},
		{"worth it, none is Live", f(4, 0, 2), row{o(0)}, row{o(0)}, cleaned, []int{4, 0, 2, 0, 0, 0}},
		{"worth it, nobody has a bind", f(0, 0), row{o(0)}, row{o(0)}, cleaned, []int{0, 0, 0, 0, 0, 0}},
		{"an object goes", f(4, 3, 3), row{o(1), o(0)}, row{o(0)}, evicted, []int{4, 0, 3, 1, 0, 0}},
		{"another one goes", f(4, 3, 3), row{m(1), o(0), o(2)}, row{o(2), o(1)}, evicted, []int{0, 3, 3, 1, 0, 0}},
		{"one of all that are marked goes", f(4, 3, 3), row{m(2), m(1), m(0)}, row{o(1), o(0)}, evicted, []int{4, 3, 0, 1, 0, 0}},
		{"one without a bind goes", f(4, 3, 3), row{o(7), m(0)}, row{m(0)}, evicted, []int{4, 3, 3, 0, 0, 0}},
		{"an object goes, no segment can be Cleaned", f(4, 4), row{o(0)}, nil, evicted, []int{0, 4, 1, 0, 0, 0}},
		{"not worth it, a ring of none", f(4, 3, 3), nil, nil, cleaned, []int{4, 0, 3, 3, 0, 0}},
		{"nothing can be done", f(4, 4, 4), nil, nil, stuck, []int{4, 4, 4, 0, 0, 0}},
		{"a fresh one", f(), nil, nil, stuck, []int{0, 0, 0, 0, 0, 0}},
		{"a fresh one, with a ring", f(), row{o(7)}, nil, evicted, []int{0, 0, 0, 0, 0, 0}},
		{"Clean of what is worth it tells an error", choked, row{m(3), o(1)}, row{m(3), o(1)}, stuck, []int{1, 1, 2, 2}},
		{"that, though one could go", choked, row{o(2)}, row{o(2)}, stuck, []int{1, 1, 2, 2}},
		{"that, and a ring of none", choked, nil, nil, stuck, []int{1, 1, 2, 2}},
		{"Drop has no room, and no Clean", jammed, row{m(3), o(1)}, row{o(1), o(3)}, stuck, []int{3, 3, 3, 3}},
		{"Drop has no room, all are marked", jammed, row{m(3), m(1)}, row{o(3), o(1)}, stuck, []int{3, 3, 3, 3}},
		{"one without a bind goes without room", jammed, row{m(3), o(4)}, row{o(3)}, evicted, []int{3, 3, 3, 3}},
		{"no Clean has room, a ring of none", jammed, nil, nil, stuck, []int{3, 3, 3, 3}},
		{"Cleaned, and nothing won", crowded, nil, nil, cleaned, []int{0, 4, 4, 2}},
		{"an object goes ahead of that", crowded, row{m(1), o(3), o(2)}, row{o(2), o(1)}, evicted, []int{4, 2, 3, 0}},
	} {
		t.Run(c.name, func(t *testing.T) {
			s, r := c.begun(t), c.ring.ring()
			what, got := reclaim.Step(s, r)
			if what != c.what {
				t.Fatalf("Step: %d; want %d", what, c.what)
			}
			c.want.stands(t, "Step", got)
			c.ring.stands(t, "what was handed in", r)
			if live := tallied(s).live; !slices.Equal(live, c.live) {
				t.Fatalf("Live pages: %v; want %v", live, c.live)
			}
			steps(t, c.begun(t), c.ring)
		})
	}
}

// brimful is a Store of three Sealed segments, of which the first one has these records, without a Free one, and with room for one page in the open one.
func brimful(t *testing.T, first ...record) *store.Store {
	t.Helper()
	rows := living(true, 7, 0, 6, 6)
	rows[0] = first
	s := laid(t, shape(4, 7, 32), append(rows[:2:2], append(rows[2][:5:5], aBind(9, 1, 5)))...)
	does(t, s, drops(9), purges(9), purges(9), purges(9), purges(9))
	if seg, page := s.Log().Open(); seg != 3 || page != 6 || free(s) != 0 {
		t.Fatalf("page %d of segment %d; %d are Free", page, seg, free(s))
	}
	return s
}

// TestStepPartly: what a Clean moved ahead of its error stays moved; that a Drop would have had room counts for nothing.
func TestStepPartly(t *testing.T) {
	b, two, floor := aBind(0, 1, 5), aPiece(0, 1, 0, text(20, 1)), aDrop(8, 1)
	for _, c := range []struct {
		first      []record
		ring, want row
		what       int
		live       []int
		bind       int // the segment where it is; -1: there is none
	}{
		{[]record{b, two}, row{m(1), o(0)}, row{m(1), o(0)}, stuck, []int{2, 6, 5, 2}, 3},
		{[]record{two, b}, row{m(1), o(0)}, row{m(1), o(0)}, stuck, []int{3, 6, 5, 1}, 0},
		{[]record{b}, row{m(1), o(0)}, row{m(1), o(0)}, cleaned, []int{0, 6, 5, 2}, 3},
		{[]record{b, floor, two}, nil, nil, stuck, []int{3, 6, 5, 2}, 3},
		{[]record{two, b, floor}, nil, nil, stuck, []int{4, 6, 5, 1}, 0},
		{[]record{b, floor, two}, row{m(1), o(0)}, row{o(1)}, evicted, []int{1, 6, 5, 2}, -1},
		{[]record{two, b, floor}, row{m(0)}, nil, evicted, []int{1, 6, 5, 2}, -1},
	} {
		s := brimful(t, c.first...)
		what, got := reclaim.Step(s, c.ring.ring())
		name := fmt.Sprintf("Step with %v", c.ring)
		if live := tallied(s).live; what != c.what || !slices.Equal(live, c.live) {
			t.Fatalf("%s: %d, Live pages %v; want %d, %v", name, what, live, c.what, c.live)
		}
		c.want.stands(t, name, got)
		if at, is := s.Index().Where(0); is != (c.bind >= 0) || at.Segment != max(c.bind, 0) {
			t.Fatalf("%s: the bind is at %v, %v", name, at, is)
		}
		steps(t, brimful(t, c.first...), c.ring)
	}
}

// TestStepsGoOn: what is done one behind the other, told by hand.
func TestStepsGoOn(t *testing.T) {
	s := laid(t, five, living(true, 5, 4, 4, 3, 2, 1)...)
	l := row{m(0), o(1), o(2), m(3), o(4)}
	for n, c := range []struct {
		what int
		ring row
		live []int
		free int
	}{
		{cleaned, l, []int{4, 4, 3, 2, 0, 1}, 1},
		{cleaned, l, []int{4, 4, 3, 0, 0, 3}, 2},
		{evicted, row{o(2), m(3), o(4), o(0)}, []int{4, 0, 3, 0, 0, 4}, 2}, // The floor of 1 is on the last page of 5.
		{cleaned, row{o(2), m(3), o(4), o(0)}, []int{4, 0, 3, 0, 0, 4}, 3},
		{evicted, row{m(3), o(4), o(0)}, []int{4, 1, 0, 0, 0, 4}, 2},
		{cleaned, row{m(3), o(4), o(0)}, []int{4, 1, 0, 0, 0, 4}, 3},
		{evicted, row{o(0), o(3)}, []int{4, 2, 0, 0, 0, 3}, 3},
		{evicted, row{o(3)}, []int{0, 3, 0, 0, 0, 3}, 3},
		{cleaned, row{o(3)}, []int{0, 3, 0, 0, 0, 3}, 4},
		{evicted, nil, []int{0, 4, 0, 0, 0, 1}, 4},
		{cleaned, nil, []int{1, 4, 0, 0, 0, 0}, 4}, // All are floors: of five objects.
		{stuck, nil, []int{1, 4, 0, 0, 0, 0}, 4},
		{stuck, nil, []int{1, 4, 0, 0, 0, 0}, 4},
	} {
		var what int
		what, l = steps(t, s, l)
		if live := tallied(s).live; what != c.what || !slices.Equal(l, c.ring) || !slices.Equal(live, c.live) || free(s) != c.free {
			t.Fatalf("step %d: %d, %v, Live pages %v, %d are Free; want %+v", n, what, l, live, free(s), c)
		}
	}
}

// P25.3.

// TestExample is the chapter's: Make on a fresh Store, of each shape that one may have: true at once; but of more segments than there are it is false.
func TestExample(t *testing.T) {
	for _, segments := range []int{4, 5, 15, 16} {
		for _, pages := range []int{1, 2, 7, 64} {
			for _, bytes := range []int{16, 33, 256} {
				s := begun(t, shape(segments, pages, bytes))
				was := s.Copy()
				l := row{m(3), o(0), o(15)}
				for _, need := range append(edges(), segments-1, segments, segments+1, -segments) {
					r, is := reclaim.Make(s, l.ring(), need)
					want := l
					if need > segments {
						want = nil // None of them has a bind: all go, one by one.
					}
					want.stands(t, fmt.Sprintf("Make of %d", need), r)
					if is != (need <= segments) {
						t.Fatalf("Make of %d of %d: %v", need, segments, is)
					}
					r, is = reclaim.Make(s, clock.New(), need)
					row(nil).stands(t, fmt.Sprintf("Make of %d", need), r)
					if is != (need <= segments) {
						t.Fatalf("Make of %d of %d: %v", need, segments, is)
					}
				}
				sameStore(t, s, was)
			}
		}
	}
}

// TestMake: told by hand: how many are asked for, and what is behind it.
func TestMake(t *testing.T) {
	l := row{m(0), o(1), o(2), m(3), o(4)}
	full := func(t *testing.T) *store.Store {
		t.Helper()
		return laid(t, shape(6, 5, 32), living(true, 5, 4, 4, 3, 2, 1)...) // One is Free.
	}
	dead := func(t *testing.T) *store.Store {
		t.Helper()
		return laid(t, five, living(true, 5, 0, 4, 0, 0, 0)...) // One is Free.
	}
	for _, c := range []struct {
		name       string
		begun      func(t *testing.T) *store.Store
		ring, want row
		need       int
		is         bool
		free       int
		did        [3]int // how often it is Stuck, Cleans, Evicts
	}{
		{"below 0", full, l, l, -1, true, 1, [3]int{}},
		{"far below 0", full, l, l, math.MinInt, true, 1, [3]int{}},
		{"of 0", full, l, l, 0, true, 1, [3]int{}},
		{"as many as are Free", full, l, l, 1, true, 1, [3]int{}},
		{"one more", full, l, l, 2, true, 2, [3]int{0, 2, 0}},
		{"two more", full, l, row{o(2), m(3), o(4), o(0)}, 3, true, 3, [3]int{0, 3, 1}},
		{"three more", full, l, row{o(3)}, 4, true, 4, [3]int{0, 5, 4}},
		{"four more: the floors of five need two", full, l, nil, 5, false, 4, [3]int{1, 6, 5}},
		{"all", full, l, nil, 6, false, 4, [3]int{1, 6, 5}},
		{"more than there are", full, l, nil, 7, false, 4, [3]int{1, 6, 5}},
		{"far more than there are", full, l, nil, math.MaxInt, false, 4, [3]int{1, 6, 5}},
		{"three more, a ring of none", full, nil, nil, 3, false, 2, [3]int{1, 3, 0}},
		{"each frees one", dead, nil, nil, 4, true, 4, [3]int{0, 3, 0}},
		{"each but the last one frees one", dead, nil, nil, 6, false, 5, [3]int{1, 4, 0}},
		{"each frees one, nobody goes", dead, row{m(3), o(1)}, row{m(3), o(1)}, 5, true, 5, [3]int{0, 4, 0}},
		{"each frees one, then all go", dead, row{m(3), o(1)}, nil, 6, false, 5, [3]int{1, 5, 2}}, // A floor needs one.
		{"stuck at once", jammed, row{m(3), m(1)}, row{o(3), o(1)}, 1, false, 0, [3]int{1, 0, 0}},
		{"stuck at once, not turned", choked, row{m(3), m(1)}, row{m(3), m(1)}, 1, false, 0, [3]int{1, 0, 0}},
		{"stuck at once, but none is asked for", jammed, row{m(3), m(1)}, row{m(3), m(1)}, 0, true, 0, [3]int{}},
		{"more Steps than there may be", crowded, nil, nil, 2, false, 1, [3]int{0, 64, 0}},
		{"those who have no bind go ahead", crowded, row{m(7), o(8), o(9), o(15)}, nil, 2, false, 1, [3]int{0, 60, 4}},
	} {
		t.Run(c.name, func(t *testing.T) {
			s, r := c.begun(t), c.ring.ring()
			got, is := reclaim.Make(s, r, c.need)
			if is != c.is || free(s) != c.free {
				t.Fatalf("Make of %d: %v, %d are Free; want %v, %d", c.need, is, free(s), c.is, c.free)
			}
			c.want.stands(t, "Make", got)
			c.ring.stands(t, "what was handed in", r)
			if _, _, did := makes(t, c.begun(t), c.ring, c.need); did != c.did {
				t.Fatalf("it is Stuck, Cleans, Evicts so often: %v; want %v", did, c.did)
			}
		})
	}
}

// TestMakeOfManySteps: 64, and no more: each Clean of these opens one segment.
func TestMakeOfManySteps(t *testing.T) {
	for _, c := range []struct {
		ring row
		need int
		left uint64
	}{
		{nil, 2, 64},
		{nil, 4, 64},
		{nil, math.MaxInt, 64},
		{nil, 1, 0},
		{row{o(5)}, 2, 63},
		{row{o(5), m(6), o(7), m(8), o(9), m(10), o(11), m(12), o(13), o(14), o(15)}, 2, 53},
	} {
		s := crowded(t)
		next := s.Log().Next()
		r, is := reclaim.Make(s, c.ring.ring(), c.need)
		if is != (c.need <= 1) || s.Log().Next() != next+c.left || r.Len() > 0 {
			t.Fatalf("Make of %d with %v: %v, %d segments were opened; want %d", c.need, c.ring, is, s.Log().Next()-next, c.left)
		}
		// Another one goes on.
		if _, is := reclaim.Make(s, clock.New(), 2); is {
			t.Fatal("two are Free")
		}
	}
}

// P25.4.

// TestBodiesStay: bodies that are moved to and fro, and floors, are as they were; who goes goes with all of it.
func TestBodiesStay(t *testing.T) {
	s := begun(t, shape(12, 9, 32))
	l := row{}
	for object := range 9 {
		does(t, s, binds(object, "a", 20, 5), puts(object, 0, text(1+7*object, object)), puts(object, 4096, text(64-object, 20+object)))
		l = append(l, seat{object, object%2 == 0})
	}
	does(t, s, purges(8), drops(7), binds(7, "b", 20, 5), puts(7, 5, "abc"), purges(3), purges(3), syncs())
	first := contentOf(t, s)
	for n := 0; ; n++ {
		var what int
		if what, l = steps(t, s, l); what == stuck || n == 200 {
			break
		}
		keeps(t, first, s)
		// What there is still is no less than all that those have who have a bind.
		now := contentOf(t, s)
		for at, body := range first.bodies {
			if _, is := now.binds[at[0]]; is && now.bodies[at] != body {
				t.Fatalf("slice %v is %q", at, now.bodies[at])
			}
		}
	}
	if len(l) > 0 || len(contentOf(t, s).binds) > 0 {
		t.Fatalf("%v is left, with the binds %v", l, contentOf(t, s).binds)
	}
	want := [objects]int{1, 1, 1, 1, 1, 1, 1, 2, 1}
	if got := contentOf(t, s).floors; got != want {
		t.Fatalf("floors %v; want %v", got, want)
	}
}

// TestRoomIsUsed: what was made room for has room, again and again; who is put in comes into the ring.
func TestRoomIsUsed(t *testing.T) {
	for _, shape := range []api.Shape{tight, small, five, shape(16, 7, 64)} {
		s, r := begun(t, shape), clock.New()
		for n := range 60 {
			object := n * 7 % objects
			if shape.Segments*(shape.Pages-1) < 2*objects {
				object = n % 2 // Each floor has its record: there is no room for all.
			}
			b := binds(object, "a", 20, n)
			if e := b.do(s); e == api.ErrFull {
				was, is := contentOf(t, s), false
				if r, is = reclaim.Make(s, r, 2); !is {
					t.Fatalf("%v: %d of two are Free behind deed %d", shape, free(s), n)
				}
				keeps(t, was, s)
				does(t, s, b)
			} else if e != api.OK {
				t.Fatalf("%s: error %d", b.name, e)
			}
			r = r.Add(object).Touch(object)
			does(t, s, syncs())
		}
	}
}

// TestNobodyMade: nothing can be done, and none is Free; the ring is as Victim left it.
func TestNobodyMade(t *testing.T) {
	for _, s := range nobodys() {
		if r := reclaim.Ring(s); r != clock.New() {
			t.Fatalf("Ring: %v", r)
		}
		if seg, is := reclaim.Worth(s); seg != 0 || is {
			t.Fatalf("Worth: %d, %v", seg, is)
		}
		for _, c := range []struct{ ring, want row }{
			{nil, nil},
			{row{o(0)}, row{o(0)}},
			{row{m(0)}, row{o(0)}},
			{row{m(3), o(9), m(4)}, row{o(9), m(4), o(3)}},
			{row{m(3), m(9), m(4)}, row{o(3), o(9), o(4)}},
		} {
			got, is := reclaim.Evict(s, c.ring.ring())
			c.want.stands(t, "Evict", got)
			what, behind := reclaim.Step(s, c.ring.ring())
			c.want.stands(t, "Step", behind)
			if is || what != stuck {
				t.Fatalf("Evict: %v; Step: %d", is, what)
			}
			for _, need := range edges() {
				r, is := reclaim.Make(s, c.ring.ring(), need)
				if is != (need <= 0) {
					t.Fatalf("Make of %d: %v", need, is)
				}
				want := c.ring // No Step is taken.
				if need > 0 {
					want = c.want
				}
				want.stands(t, fmt.Sprintf("Make of %d", need), r)
			}
		}
	}
}

// TestPastTheStore: a log that was changed past its Store: each call ends, and the answers are of that form.
func TestPastTheStore(t *testing.T) {
	for _, past := range []func(s *store.Store){
		func(s *store.Store) { s.Log().Erase(0) },
		func(s *store.Store) { s.Log().Erase(0); s.Log().Erase(1) },
		func(s *store.Store) { s.Log().Device().Erase(0) },
		func(s *store.Store) { s.Log().Device().Crash(lost) },
		func(s *store.Store) { s.Log().Device().Crash(plan(0x5555, 1, 7)) },
		func(s *store.Store) { s.Log().Append(9, []byte("abc")) },
		func(s *store.Store) {
			for s.Log().Count(seglog.Free) > 0 {
				s.Log().Move(9, []byte("abc"))
			}
		},
	} {
		for _, begun := range []func(t *testing.T) *store.Store{three, crowded, choked, jammed} {
			for need := range 6 {
				s, l := begun(t), row{m(1), o(2), o(3), o(9)}
				past(s)
				reclaim.Ring(s)
				seg, is := reclaim.Worth(s)
				if is && s.Log().State(seg) != seglog.Sealed {
					t.Fatalf("Worth: %d", seg)
				}
				r, is := reclaim.Make(s, l.ring(), need)
				if is != (free(s) >= need) || r.Len() > 4 {
					t.Fatalf("Make of %d: %v, %d are Free", need, is, free(s))
				}
				what, r := reclaim.Step(s, r)
				if what < stuck || what > evicted || r.Len() > 4 {
					t.Fatalf("Step: %d", what)
				}
			}
		}
	}
}

// Any rows.

// someRows are rows of some objects, each in some orders, and marked in many ways.
func someRows() []row {
	return []row{
		nil, {o(1)}, {m(1)}, {o(2)}, {o(9)}, {m(9)},
		{o(1), o(2)}, {m(1), o(2)}, {o(1), m(2)}, {m(1), m(2)}, {o(2), o(1)}, {m(2), o(1)}, {m(2), m(1)},
		{o(9), o(1)}, {m(9), m(1)}, {m(1), o(9)}, {m(9), o(2), m(1)}, {m(2), m(1), m(9)}, {o(9), m(0), m(2), o(1)},
	}
}

// asked holds that each call does what it does on paper, each on a Store of its own.
func asked(t *testing.T, s *store.Store, l row, need int) {
	t.Helper()
	evicts(t, s.Copy(), l)
	steps(t, s.Copy(), l)
	makes(t, s.Copy(), l, need)
}

// TestRows: all rows of few deeds on small devices, with some rings.
func TestRows(t *testing.T) {
	deeds := []deed{binds(1, "a", 20, 5), binds(2, "b", 20, 5), puts(1, 0, "abc"), puts(1, 1, "1234567890"), drops(1), purges(2), syncs(), seals()}
	all, n := someRows(), 0
	var follow func(s *store.Store, left int)
	follow = func(s *store.Store, left int) {
		agrees(t, s)
		for range 2 {
			asked(t, s, all[n%len(all)], n%6)
			n++
		}
		if left == 0 {
			return
		}
		for _, d := range deeds {
			x := s.Copy()
			d.do(x)
			follow(x, left-1)
		}
	}
	follow(begun(t, small), 3)
	follow(begun(t, tight), 3)
	// Behind these there is little room.
	s := begun(t, shape(4, 3, 32))
	does(t, s, binds(1, "a", 20, 5), binds(2, "b", 20, 5), binds(3, "c", 20, 5), drops(3), puts(1, 7, "x"))
	follow(s, 3)
}

// TestEachRing: each ring of four objects, marked in each way, of Stores of many kinds.
func TestEachRing(t *testing.T) {
	var all []row
	var on func(l row)
	on = func(l row) {
		all = append(all, slices.Clone(l))
		for _, object := range []int{1, 9, 4} {
			if !slices.Contains(l, o(object)) && !slices.Contains(l, m(object)) {
				on(append(slices.Clone(l), o(object)))
				on(append(slices.Clone(l), m(object)))
			}
		}
	}
	on(nil)
	for _, s := range []*store.Store{begun(t, small), three(t), crowded(t), choked(t), jammed(t), laid(t, five, living(true, 5, 4, 3, 3, 4, 3)...), laid(t, five, living(false, 5, 4, 2, 3, 4, 1)...)} {
		for n, l := range all {
			asked(t, s, l, free(s)+n%4-1)
		}
	}
}

// row is any one.
func (x *dice) row() row {
	var l row
	for object := range objects {
		if object < 4 && x.next(4) > 0 || x.next(5) == 0 {
			l = slices.Insert(l, x.next(len(l)+1), seat{object, x.next(2) == 0})
		}
	}
	return l
}

// deed is any one, mostly such that it comes to something.
func (x *dice) deed(s api.Shape, tick int) deed {
	object := x.next(4)
	if x.next(40) == 0 {
		object = []int{15, 9}[x.next(2)]
	}
	switch x.next(14) {
	case 0, 1:
		return binds(object, "abc"[:x.next(4)], x.next(4098), x.next(20))
	case 2, 3, 4, 5, 6:
		body := text(x.next(1+min(66, 2*s.Bytes)), x.next(1000))
		return puts(object, []int{x.next(6), x.next(6), x.next(6), 4095 + x.next(3)}[x.next(4)], body)
	case 7, 8:
		return touches(object, tick+x.next(4))
	case 9:
		return purges(object)
	case 10:
		return drops(object)
	case 11:
		return seals()
	case 12:
		return cleans(x.next(s.Segments+2) - 1)
	}
	return syncs()
}

// TestPlays: long rows of any deeds on devices of many shapes, with Steps and Makes between them, that go on with their ring, and with crashes.
func TestPlays(t *testing.T) {
	shapes := []api.Shape{tight, small, five, shape(4, 3, 64), shape(5, 9, 16), shape(6, 5, 48), shape(4, 12, 20), shape(9, 4, 128), shape(4, 1, 16), shape(16, 2, 256), shape(4, 7, 32)}
	for seed, shape := range slices.Repeat(shapes, 4) {
		dice := seeded(seed)
		s, l := begun(t, shape), row(nil)
		for n := range 150 {
			dice.deed(shape, n/8).do(s)
			agrees(t, s)
			if n%3 == 0 {
				asked(t, s, dice.row(), dice.next(shape.Segments+3)-1)
			}
			switch dice.next(12) {
			case 0:
				l = dice.row()
			case 1, 2:
				_, l = steps(t, s, l)
			case 3:
				l, _, _ = makes(t, s, l, dice.next(4))
			case 4:
				l, _ = evicts(t, s, l)
			case 5:
				if dice.next(3) == 0 {
					s = behind(t, s, dice.plan(s.Log().Device().Dirty(), shape.Bytes))
				}
			}
		}
	}
}

// The rules that hold everywhere.

// TestRingsGoTheirOwnWays: P2: a Ring that was handed in, or out, is as it was, whatever the Store and other Rings do.
func TestRingsGoTheirOwnWays(t *testing.T) {
	s, l := three(t), row{m(1), o(2), m(3), o(9)}
	r, made := l.ring(), reclaim.Ring(s)
	a, _ := reclaim.Evict(s, r)
	_, b := reclaim.Step(s, r)
	c, _ := reclaim.Make(s, r, 7)
	for _, x := range []clock.Ring{a, b, c} {
		_ = x.Add(12).Touch(12).Touch(9).Remove(3)
		all := x.All()
		clear(all[:cap(all)])
	}
	l.stands(t, "what was handed in", r)
	row{m(3), o(9), o(1)}.stands(t, "Evict's", a)
	row{o(1), o(2), o(3)}.stands(t, "Ring's", made)
}

// TestTheSameAgain: P3: the same calls come to the same, on Copies, and of those who ask at the same time each has a Store of its own.
func TestTheSameAgain(t *testing.T) {
	s := laid(t, five, living(true, 5, 4, 4, 3, 2, 1)...)
	l := row{m(0), o(1), o(2), m(3), o(4)}
	was := s.Copy()
	var wait sync.WaitGroup
	for range 4 {
		mine := s.Copy()
		wait.Go(func() {
			for range 10 {
				x := mine.Copy()
				r, is := reclaim.Make(x, l.ring(), 4)
				if !is || r != (row{o(3)}).ring() {
					t.Error("another answer")
				}
				// These two change nothing: all may ask them of one Store.
				if seg, is := reclaim.Worth(s); seg != 4 || !is || reclaim.Ring(s).Len() != 5 {
					t.Error("another answer")
				}
			}
		})
	}
	wait.Wait()
	sameStore(t, s, was)
}
