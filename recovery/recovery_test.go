package recovery_test

import (
	"bytes"
	"encoding/binary"
	"fmt"
	"maps"
	"math"
	"slices"
	"strings"
	"sync"
	"testing"

	"spence/api"
	"spence/crash"
	"spence/flash"
	"spence/index"
	"spence/recovery"
	"spence/scan"
	"spence/seglog"
	"spence/store"
)

// How many objects there are, the kinds of records, and the greatest number of a slice, told by hand.
const (
	objects   = 16
	kindBind  = 2
	kindPiece = 3
	kindDrop  = 4
	kindPurge = 5
	mostIndex = 4096
)

// shape is a device's: segments, pages of each, bytes of each page.
func shape(segments, pages, bytes int) api.Shape {
	return api.Shape{Segments: segments, Pages: pages, Bytes: bytes}
}

// Small shapes, in whose pages each record has room that has a Tag of a byte, or a body of up to 9. Of tight a segment has room for one, of small for three.
var (
	tight = shape(4, 2, 32)
	small = shape(4, 4, 32)
	wide  = shape(6, 8, 32)
)

// plan is how a device crashes; lost is one that keeps nothing, kept one that keeps the first 64 pages.
func plan(keep uint64, torn, cut int) api.Plan { return api.Plan{Keep: keep, Torn: torn, Cut: cut} }

var (
	lost = plan(0, -1, 0)
	kept = plan(math.MaxUint64, -1, 0)
)

// device is a fresh one.
func device(t *testing.T, s api.Shape) *flash.Device {
	t.Helper()
	d, e := flash.New(s)
	if e != api.OK {
		t.Fatalf("flash.New(%v): error %d", s, e)
	}
	return d
}

// A dice tells numbers without a short rule in them, the same ones each time.
type dice uint64

func (x *dice) next(below int) int {
	*x ^= *x << 13
	*x ^= *x >> 7
	*x ^= *x << 17
	return int(uint64(*x) >> 11 % uint64(below))
}

// plan is any crash of so many pages.
func (x *dice) plan(pages, bytes int) api.Plan {
	return plan(uint64(x.next(1<<32))<<32|uint64(x.next(1<<32)), x.next(pages+2)-1, x.next(bytes+2)-1)
}

// seeded is a dice of its own for each seed.
func seeded(seed int) *dice {
	x := dice(88172645463325252 + 7919*seed)
	for range 9 {
		x.next(2)
	}
	return &x
}

// text is so many bytes without a short rule in them; a seed makes others.
func text(length, seed int) string {
	b, x := make([]byte, length), seeded(seed)
	for i := range b {
		b[i] = byte(x.next(255))
	}
	return string(b)
}

// edges are numbers at which something may be wrong.
func edges() []int {
	return []int{math.MinInt, -1 << 32, -17, -1, 0, 1, 2, 15, 16, 17, 63, 64, 65, 255, 256, 4096, 4097, 1 << 16, 1 << 31, 1 << 32, 1<<32 + 1, math.MaxInt}
}

// nobodys are Stores that nobody made.
func nobodys() []*store.Store {
	var none *store.Store
	failed, _ := store.New(nil)
	unopened, _ := store.Open(&flash.Device{})
	return []*store.Store{nil, none, {}, new(store.Store), failed, unopened, none.Copy(), new(store.Store).Copy()}
}

// What is held, told by hand.

// bind is one.
func bind(object, gen int, tag string, length, tick int) api.Bind {
	return api.Bind{Object: object, Gen: gen, Tag: tag, Length: length, Tick: tick}
}

// piece is one.
func piece(object, gen, i int, body string) api.Piece {
	return api.Piece{Object: object, Gen: gen, Index: i, Body: []byte(body)}
}

// holding is a bind with pieces.
func holding(b api.Bind, pieces ...api.Piece) recovery.Held {
	return recovery.Held{Bind: b, Pieces: pieces}
}

// list is one of what is held.
func list(l ...recovery.Held) []recovery.Held { return l }

// likePiece is whether two pieces are alike; no Body, nil and empty, are the same.
func likePiece(a, b api.Piece) bool {
	return a.Object == b.Object && a.Gen == b.Gen && a.Index == b.Index && string(a.Body) == string(b.Body)
}

// like is whether what is held is alike in all, and in the same order.
func like(a, b recovery.Held) bool {
	return a.Bind == b.Bind && slices.EqualFunc(a.Pieces, b.Pieces, likePiece)
}

// show is a list as text.
func show(l []recovery.Held) string {
	var b strings.Builder
	for _, h := range l {
		fmt.Fprintf(&b, "{%+v", h.Bind)
		for _, p := range h.Pieces {
			fmt.Fprintf(&b, " %d/%d/%d %q", p.Object, p.Gen, p.Index, p.Body)
		}
		b.WriteString("}")
	}
	return b.String()
}

// holds is that a Store holds just that, in that order.
func holds(t *testing.T, s *store.Store, want ...recovery.Held) {
	t.Helper()
	if got := recovery.All(s); !slices.EqualFunc(got, want, like) {
		t.Fatalf("All: %s; want %s", show(got), show(want))
	}
	n := 0
	for object := -2; object < objects+2; object++ {
		at := slices.IndexFunc(want, func(h recovery.Held) bool { return h.Bind.Object == object })
		h, is := recovery.Of(s, object)
		if is != (at >= 0) || !is && !like(h, recovery.Held{}) || is && !like(h, want[at]) {
			t.Fatalf("Of(%d): %s, %v; want one of %s", object, show(list(h)), is, show(want))
		}
		for _, p := range h.Pieces {
			n += len(p.Body)
		}
	}
	if got := recovery.Bytes(want); got != n {
		t.Fatalf("Bytes: %d; want %d", got, n)
	}
}

// The paper: what the document says that a Store holds, told by its deeds.

// sheet is what is held of one object; without a bind its Gen is 0. The map of its slices is never changed: another one takes its place.
type sheet struct {
	bind   api.Bind
	slices map[int]string
	floor  int
}

// paper is what is held, and what was when it was synced last.
type paper struct {
	sheets, lasting [objects]sheet
}

// with are slices, and one more.
func with(old map[int]string, i int, body string) map[int]string {
	out := maps.Clone(old)
	if out == nil {
		out = map[int]string{}
	}
	out[i] = body
	return out
}

// held is what is on sheets.
func held(l [objects]sheet) []recovery.Held {
	var out []recovery.Held
	for object, x := range l {
		if x.bind.Gen == 0 {
			continue
		}
		h := holding(x.bind)
		for _, i := range slices.Sorted(maps.Keys(x.slices)) {
			h.Pieces = append(h.Pieces, piece(object, x.bind.Gen, i, x.slices[i]))
		}
		out = append(out, h)
	}
	return out
}

// pair is a Store, and its paper.
type pair struct {
	t    *testing.T
	s    *store.Store
	p    paper
	done []string
}

// begun is a new Store with its paper.
func begun(t *testing.T, shape api.Shape) *pair {
	t.Helper()
	s, e := store.New(device(t, shape))
	if e != api.OK {
		t.Fatalf("store.New: error %d", e)
	}
	return &pair{t: t, s: s}
}

func (x *pair) copied() *pair { return &pair{x.t, x.s.Copy(), x.p, slices.Clone(x.done)} }

// deed is one of a Store, with what it comes to on paper.
type deed struct {
	name string
	do   func(x *pair) api.Errno
}

func binds(object int, tag string, length, tick int) deed {
	return deed{fmt.Sprintf("Bind(%d, %q, %d, %d)", object, tag, length, tick), func(x *pair) api.Errno {
		gen, e := x.s.Bind(object, tag, length, tick)
		if object < 0 || object >= objects {
			return e
		}
		// Of a bind that has no room the old one is gone all the same.
		if old := x.p.sheets[object].bind.Gen; old > 0 && x.s.Index().Floor(object) == old {
			x.gone(object, old)
		}
		if e == api.OK {
			x.p.sheets[object].bind = bind(object, gen, tag, length, tick)
		}
		return e
	}}
}

func touches(object, tick int) deed {
	return deed{fmt.Sprintf("Touch(%d, .., %d)", object, tick), func(x *pair) api.Errno {
		b := &x.p.sheets[object].bind
		e := x.s.Touch(object, b.Gen, tick)
		if e == api.OK {
			b.Tick = tick
		}
		return e
	}}
}

func puts(object, i int, body string) deed {
	return deed{fmt.Sprintf("Put(%d, .., %d, %q)", object, i, body), func(x *pair) api.Errno {
		sheet := &x.p.sheets[object]
		e := x.s.Put(object, sheet.bind.Gen, i, []byte(body))
		if e == api.OK {
			sheet.slices = with(sheet.slices, i, body)
		}
		return e
	}}
}

func drops(object int) deed {
	return deed{fmt.Sprintf("Drop(%d)", object), func(x *pair) api.Errno {
		e := x.s.Drop(object)
		if e == api.OK {
			x.gone(object, x.p.sheets[object].bind.Gen)
		}
		return e
	}}
}

func purges(object int) deed {
	return deed{fmt.Sprintf("Purge(%d)", object), func(x *pair) api.Errno {
		e := x.s.Purge(object)
		last := max(x.p.sheets[object].floor, x.p.sheets[object].bind.Gen)
		if e == api.OK && last > 0 {
			x.gone(object, last)
		}
		return e
	}}
}

func syncs() deed {
	return deed{"Sync()", func(x *pair) api.Errno {
		x.s.Sync()
		x.p.lasting = x.p.sheets
		return api.OK
	}}
}

func cleans(seg int) deed {
	return deed{fmt.Sprintf("Clean(%d)", seg), func(x *pair) api.Errno {
		e := x.s.Clean(seg)
		if e == api.OK {
			x.p.lasting = x.p.sheets
		}
		return e
	}}
}

// seals is one past the Store.
func seals() deed {
	return deed{"Log().Seal()", func(x *pair) api.Errno {
		x.s.Log().Seal()
		return api.OK
	}}
}

// gone is what is left on paper of an object of which a generation is gone: all else is synced with that.
func (x *pair) gone(object, gen int) {
	x.p.sheets[object] = sheet{floor: gen}
	x.p.lasting = x.p.sheets
}

// tell says what was done, if something was wrong.
func (x *pair) tell() {
	if x.t.Failed() {
		x.t.Log(strings.Join(x.done, "; "))
	}
}

// tries does deeds, whatever they come to.
func (x *pair) tries(l ...deed) {
	for _, d := range l {
		x.done = append(x.done, d.name)
		d.do(x)
	}
}

// does holds that deeds are done.
func (x *pair) does(l ...deed) {
	x.t.Helper()
	for _, d := range l {
		x.done = append(x.done, d.name)
		if e := d.do(x); e != api.OK {
			x.t.Fatalf("%s: error %d", strings.Join(x.done, "; "), e)
		}
	}
	x.holds()
}

// holds is that the Store holds what is on paper.
func (x *pair) holds() {
	x.t.Helper()
	defer x.tell()
	holds(x.t, x.s, held(x.p.sheets)...)
}

// What lies on a device, told without codec, replay and store.

// found are the sheets of a device's records, told by looking back over all of them: the floor is the greatest generation that ever was dropped, the bind's Gen the greatest one above it.
func found(d *flash.Device) [objects]sheet {
	var out [objects]sheet
	row := scan.All(d)
	for object := range out {
		mine := slices.DeleteFunc(slices.Clone(row), func(e api.Entry) bool { return len(e.Data) < 5 || int(e.Data[0]) != object })
		out[object] = read(mine, object)
	}
	return out
}

// gen is which generation a record is of.
func gen(e api.Entry) int { return int(binary.BigEndian.Uint32(e.Data[1:5])) }

// read is the sheet of one object's records.
func read(mine []api.Entry, object int) sheet {
	var x sheet
	most := 0
	for _, e := range mine {
		if e.Kind == kindDrop || e.Kind == kindPurge {
			x.floor = max(x.floor, gen(e))
		}
	}
	for _, e := range mine {
		if e.Kind == kindBind && gen(e) > x.floor {
			most = max(most, gen(e))
		}
	}
	for _, e := range mine {
		b := e.Data
		switch {
		case most == 0 || gen(e) != most:
		case e.Kind == kindBind:
			if tick := int(binary.BigEndian.Uint64(b[7:15])); x.bind.Gen == 0 || tick >= x.bind.Tick {
				x.bind = bind(object, most, string(b[15:]), int(binary.BigEndian.Uint16(b[5:7])), tick)
			}
		case e.Kind == kindPiece:
			x.slices = with(x.slices, int(binary.BigEndian.Uint16(b[5:7])), string(b[7:]))
		}
	}
	return x
}

// behind is what a crash makes of a Store's device.
func behind(s *store.Store, c api.Plan) *flash.Device {
	return crash.After(s.Log().Device(), c)
}

// Holding a Store against another one.

// sameDevice holds that a device is as another one: the same bytes, and the same pages that aren't lasting, in their order.
func sameDevice(t *testing.T, d, want *flash.Device) {
	t.Helper()
	if !crash.Same(d, want) || d.Dirty() != want.Dirty() {
		t.Fatalf("the device has the pages %v, %d of them not lasting; want %v, %d, or others of its bytes", crash.Pages(d), d.Dirty(), crash.Pages(want), want.Dirty())
	}
	for i := range d.Dirty() {
		if p := plan(0, i, 256); !crash.Same(crash.After(d, p), crash.After(want, p)) {
			t.Fatalf("the page that was written at %d is another one", i)
		}
	}
}

// sameStore holds that a Store is as another one.
func sameStore(t *testing.T, s, want *store.Store) {
	t.Helper()
	if !index.Same(s.Index(), want.Index()) {
		t.Fatal("the index is another one")
	}
	l, other := s.Log(), want.Log()
	seg, page := l.Open()
	if a, b := other.Open(); seg != a || page != b || l.Next() != other.Next() {
		t.Fatalf("the log is at page %d of segment %d, next %d; want %d, %d, %d", page, seg, l.Next(), b, a, other.Next())
	}
	for seg := range l.Device().Shape().Segments {
		if l.State(seg) != other.State(seg) {
			t.Fatalf("segment %d: state %d; want %d", seg, l.State(seg), other.State(seg))
		}
	}
	sameDevice(t, l.Device(), other.Device())
}

// after is the Store that After answers, held against what lies on the device behind that crash; the Store that it is asked of stays as it was.
func after(t *testing.T, s *store.Store, c api.Plan) *store.Store {
	t.Helper()
	was := s.Copy()
	x, e := recovery.After(s, c)
	if x == nil || e != api.OK {
		t.Fatalf("After %+v: %v, error %d", c, x, e)
	}
	sameStore(t, s, was)
	if x == s || x.Log() == s.Log() || x.Log().Device() == s.Log().Device() {
		t.Fatalf("After %+v: it isn't a Store of its own", c)
	}
	want, _ := store.Open(behind(s, c))
	sameStore(t, x, want)
	lies := found(behind(s, c))
	holds(t, x, held(lies)...)
	for object, sheet := range lies {
		if n := x.Index().Floor(object); n != sheet.floor {
			t.Fatalf("After %+v: object %d has the floor %d; want %d", c, object, n, sheet.floor)
		}
	}
	return x
}

// safe holds whether Safe is true; the Store stays as it was.
func safe(t *testing.T, s *store.Store, c api.Plan, want bool) {
	t.Helper()
	was := s.Copy()
	if got := recovery.Safe(s, c); got != want {
		t.Fatalf("Safe %+v: %v; want %v; there is %s, behind it %s", c, got, want, show(recovery.All(s)), show(held(found(behind(s, c)))))
	}
	sameStore(t, s, was)
}

// again is the pair behind a crash, with all that P22.4 says of it.
func (x *pair) again(c api.Plan) *pair {
	x.t.Helper()
	defer x.tell()
	y := &pair{t: x.t, s: after(x.t, x.s, c), done: append(slices.Clone(x.done), fmt.Sprintf("crash %+v", c))}
	y.p.sheets = found(y.s.Log().Device())
	y.p.lasting = y.p.sheets
	now, was := recovery.All(y.s), recovery.All(x.s)
	if !recovery.Sub(now, was) || !sub(now, held(x.p.sheets)) {
		x.t.Fatalf("behind crash %+v there is %s; there was %s", c, show(now), show(was))
	}
	if !recovery.Sub(x.synced(), now) || !sub(x.synced(), now) {
		x.t.Fatalf("behind crash %+v there is %s; synced was %s", c, show(now), show(x.synced()))
	}
	if x.s.Log().Device().Dirty() == 0 && !recovery.Same(now, was) {
		x.t.Fatalf("behind crash %+v there is %s; synced was all of %s", c, show(now), show(was))
	}
	safe(x.t, x.s, c, true)
	return y
}

// synced is what was synced last, and is neither dropped nor purged since.
func (x *pair) synced() []recovery.Held {
	l := x.p.lasting
	for object := range l {
		if l[object].bind.Gen != x.p.sheets[object].bind.Gen {
			l[object] = sheet{}
		}
	}
	return held(l)
}

// sub is Sub, told by texts.
func sub(a, b []recovery.Held) bool {
	for _, x := range a {
		found := false
		for _, y := range b {
			found = found || whose(x) == whose(y) && x.Bind.Tick <= y.Bind.Tick && less(texts(x), texts(y))
		}
		if !found {
			return false
		}
	}
	return true
}

// whose is a bind as text, but for its Tick.
func whose(h recovery.Held) string {
	return fmt.Sprintf("%d %d %q %d", h.Bind.Object, h.Bind.Gen, h.Bind.Tag, h.Bind.Length)
}

// texts are pieces as texts, each once.
func texts(h recovery.Held) map[string]struct{} {
	out := map[string]struct{}{}
	for _, p := range h.Pieces {
		out[fmt.Sprintf("%d %d %d %q", p.Object, p.Gen, p.Index, p.Body)] = struct{}{}
	}
	return out
}

// less is whether b has all that a has.
func less(a, b map[string]struct{}) bool {
	for k := range a {
		if _, is := b[k]; !is {
			return false
		}
	}
	return true
}

// Records, laid past a Store.

// record is one.
type record struct {
	kind byte
	data []byte
}

// headData is what each record begins with.
func headData(object, gen int) []byte {
	return binary.BigEndian.AppendUint32([]byte{byte(object)}, uint32(gen))
}

func aBind(b api.Bind) record {
	out := binary.BigEndian.AppendUint16(headData(b.Object, b.Gen), uint16(b.Length))
	return record{kindBind, append(binary.BigEndian.AppendUint64(out, uint64(b.Tick)), b.Tag...)}
}

func aPiece(p api.Piece) record {
	return record{kindPiece, append(binary.BigEndian.AppendUint16(headData(p.Object, p.Gen), uint16(p.Index)), p.Body...)}
}

func aDrop(object, gen int) record { return record{kindDrop, headData(object, gen)} }

func aPurge(object, gen int) record { return record{kindPurge, headData(object, gen)} }

// lays puts records into a log.
func lays(t *testing.T, log *seglog.Log, l ...record) {
	t.Helper()
	for _, r := range l {
		if _, e := log.Append(r.kind, r.data); e != api.OK {
			t.Fatalf("seglog's Append of %v: error %d", r, e)
		}
	}
}

// laidOut is a device on which a log has these records, none of them lasting.
func laidOut(t *testing.T, s api.Shape, l ...record) *flash.Device {
	t.Helper()
	d := device(t, s)
	log, _ := seglog.New(d)
	lays(t, log, l...)
	return d
}

// opened is the Store of a device.
func opened(t *testing.T, d *flash.Device) *store.Store {
	t.Helper()
	s, e := store.Open(d)
	if e != api.OK {
		t.Fatalf("store.Open: error %d", e)
	}
	return s
}

// TestNumbersByHand: what the tests tell by hand is what api tells.
func TestNumbersByHand(t *testing.T) {
	if kindBind != api.KindBind || kindPiece != api.KindPiece || kindDrop != api.KindDrop || kindPurge != api.KindPurge || objects != api.MaxObject || mostIndex != api.MaxLength {
		t.Fatal("kinds, objects, slices")
	}
}

// P22.1.

// TestExample is the chapter's: a synced store, any plan: Same.
func TestExample(t *testing.T) {
	x := begun(t, wide)
	x.does(binds(1, "a", 20, 0), puts(1, 0, "abc"), binds(2, "b", 30, 3), puts(1, 1, "de"), syncs())
	for _, c := range plans(x.s.Log().Device()) {
		s, e := recovery.After(x.s, c)
		if e != api.OK || !recovery.Same(recovery.All(s), recovery.All(x.s)) || !recovery.Safe(x.s, c) {
			t.Fatalf("behind %+v", c)
		}
	}
}

// TestOf: one object, deed by deed.
func TestOf(t *testing.T) {
	x := begun(t, shape(9, 8, 32))
	holds(t, x.s)
	x.does(binds(3, "a", 20, 5))
	holds(t, x.s, holding(bind(3, 1, "a", 20, 5)))
	x.does(puts(3, 7, "seven"))
	holds(t, x.s, holding(bind(3, 1, "a", 20, 5), piece(3, 1, 7, "seven")))
	x.does(puts(3, 4096, "last"), puts(3, 0, "first"), puts(3, 2, "two"))
	all := []api.Piece{piece(3, 1, 0, "first"), piece(3, 1, 2, "two"), piece(3, 1, 7, "seven"), piece(3, 1, 4096, "last")}
	holds(t, x.s, holding(bind(3, 1, "a", 20, 5), all...))
	x.does(touches(3, 9))
	holds(t, x.s, holding(bind(3, 1, "a", 20, 9), all...))
	x.does(binds(3, "b", 0, 4))
	holds(t, x.s, holding(bind(3, 2, "b", 0, 4)))
	x.does(puts(3, 2, "anew"))
	holds(t, x.s, holding(bind(3, 2, "b", 0, 4), piece(3, 2, 2, "anew")))
	x.does(drops(3))
	holds(t, x.s)
	x.does(binds(3, "", 4096, 0), puts(3, 4095, "x"))
	holds(t, x.s, holding(bind(3, 3, "", 4096, 0), piece(3, 3, 4095, "x")))
	x.does(purges(3))
	holds(t, x.s)
	x.does(purges(3))
	holds(t, x.s)
}

// TestOfNoObject: one that may not be has no bind.
func TestOfNoObject(t *testing.T) {
	x := begun(t, shape(4, 64, 32))
	for object := range objects {
		x.does(binds(object, "a", 20, object), puts(object, 0, "abc"))
	}
	for _, object := range append(edges(), -16, 32, 1<<8+1, 1<<63-16) {
		h, is := recovery.Of(x.s, object)
		if may := object >= 0 && object < objects; is != may || !may && !like(h, recovery.Held{}) {
			t.Fatalf("Of(%d): %s, %v", object, show(list(h)), is)
		}
	}
}

// TestOfRises: slices are told by rising numbers, wherever their records are.
func TestOfRises(t *testing.T) {
	row := []int{5, 4096, 0, 64, 63, 1, 4095, 128, 6, 65}
	for turn := range row {
		x := begun(t, wide)
		x.does(binds(1, "a", 20, 5))
		for n := range row {
			i := row[(n+turn)%len(row)]
			x.does(puts(1, i, fmt.Sprint("no ", i)))
		}
		h, _ := recovery.Of(x.s, 1)
		if !slices.IsSortedFunc(h.Pieces, func(a, b api.Piece) int { return a.Index - b.Index }) || len(h.Pieces) != len(row) {
			t.Fatalf("Of: %s", show(list(h)))
		}
		was := x.s.Index().Places(1)
		x.does(seals())
		for seg := range 2 {
			x.does(cleans(seg))
		}
		if slices.Equal(was, x.s.Index().Places(1)) {
			t.Fatal("Clean moved nothing")
		}
		holds(t, x.s, h)
	}
}

// TestOfBodies: of each length.
func TestOfBodies(t *testing.T) {
	x := begun(t, shape(4, 64, 64))
	x.does(binds(15, "a", 4096, 5))
	total := 0
	for n := range 64 {
		x.does(puts(15, n, text(n+1, n)))
		total += n + 1
	}
	h, _ := recovery.Of(x.s, 15)
	for n, p := range h.Pieces {
		if string(p.Body) != text(n+1, n) {
			t.Fatalf("slice %d: %q", n, p.Body)
		}
	}
	if n := recovery.Bytes(list(h)); n != total || len(h.Pieces) != 64 {
		t.Fatalf("Bytes: %d of %d slices", n, len(h.Pieces))
	}
}

// TestOfUntold: a slice that Get doesn't tell isn't held, though the index has it.
func TestOfUntold(t *testing.T) {
	x := begun(t, small)
	x.does(binds(1, "a", 20, 5), puts(1, 0, "abc"), puts(1, 3, "de"), puts(1, 1, "fgh"), puts(1, 2, "ij"), puts(1, 4, "k"))
	// The bind, slices 0 and 3 are in the first segment, all else in the second one.
	s := x.s.Copy()
	s.Log().Erase(0)
	holds(t, s, holding(bind(1, 1, "a", 20, 5), piece(1, 1, 1, "fgh"), piece(1, 1, 2, "ij"), piece(1, 1, 4, "k")))
	if s.Index().Slices(1).Len() != 5 {
		t.Fatal("the index has lost what the log has lost")
	}
	s = x.s.Copy()
	s.Log().Device().Crash(plan(math.MaxUint64&^(1<<3|1<<6), -1, 0))
	for _, i := range []int{3, 2} {
		if b, e := s.Get(1, i); e == api.OK {
			t.Fatalf("Get(1, %d): %q", i, b)
		}
	}
	holds(t, s, holding(bind(1, 1, "a", 20, 5), piece(1, 1, 0, "abc"), piece(1, 1, 1, "fgh"), piece(1, 1, 4, "k")))
	s = x.s.Copy()
	s.Log().Device().Crash(lost)
	holds(t, s, holding(bind(1, 1, "a", 20, 5)))
	h, is := recovery.Of(s, 1)
	if !is || recovery.Bytes(list(h)) != 0 {
		t.Fatalf("Of: %s, %v", show(list(h)), is)
	}
}

// TestAll: none, each one alone, all of them.
func TestAll(t *testing.T) {
	if l := recovery.All(begun(t, small).s); len(l) != 0 || recovery.Bytes(l) != 0 {
		t.Fatalf("All of nothing: %s", show(l))
	}
	big := shape(4, 64, 32)
	for object := range objects {
		x := begun(t, big)
		x.does(binds(object, "a", object, 5))
		holds(t, x.s, holding(bind(object, 1, "a", object, 5)))
	}
	x := begun(t, big)
	for object := objects - 1; object >= 0; object-- {
		x.does(binds(object, fmt.Sprint(object), 20, object), puts(object, object, text(object+1, 5)))
	}
	l := recovery.All(x.s)
	if len(l) != objects || recovery.Bytes(l) != 16*17/2 {
		t.Fatalf("All: %s", show(l))
	}
	for object, h := range l {
		if !like(h, holding(bind(object, 1, fmt.Sprint(object), 20, object), piece(object, 1, object, text(object+1, 5)))) {
			t.Fatalf("All: %s at %d", show(list(h)), object)
		}
	}
	for object := range objects {
		y := x.copied()
		y.does(drops(object))
		holds(t, y.s, slices.Delete(recovery.All(x.s), object, object+1)...)
		y.does(binds(object, "n", 1, 1))
		if l := recovery.All(y.s); len(l) != objects || !like(l[object], holding(bind(object, 2, "n", 1, 1))) {
			t.Fatalf("All: %s", show(l))
		}
	}
}

// TestBytes: of lists that need be no store's.
func TestBytes(t *testing.T) {
	long := piece(-3, 0, -9, text(100000, 1))
	for _, c := range []struct {
		l    []recovery.Held
		want int
	}{
		{nil, 0},
		{list(), 0},
		{list(recovery.Held{}), 0},
		{list(holding(bind(1, 1, "tag", 4096, 99))), 0},
		{list(holding(api.Bind{}, api.Piece{Object: 9, Gen: 9, Index: 9})), 0},
		{list(holding(api.Bind{}, piece(0, 0, 0, ""))), 0},
		{list(holding(api.Bind{}, piece(0, 0, 0, "a"))), 1},
		{list(holding(api.Bind{}, piece(0, 0, 0, "a"), piece(0, 0, 0, "a"))), 2},
		{list(holding(api.Bind{}, piece(0, 0, 0, "abc"), piece(0, 0, 1, ""), piece(0, 0, 2, "de"))), 5},
		{list(holding(api.Bind{}, piece(0, 0, 0, "abc")), recovery.Held{}, holding(api.Bind{}, piece(0, 0, 0, "abc"), piece(1, 0, 0, "defg"))), 10},
		{list(holding(api.Bind{}, long), holding(api.Bind{}, long, long)), 300000},
	} {
		if n := recovery.Bytes(c.l); n != c.want {
			t.Fatalf("Bytes of %s: %d; want %d", show(c.l), n, c.want)
		}
	}
	for n := range 300 {
		if got := recovery.Bytes(list(holding(api.Bind{}, piece(0, 0, 0, text(n, n))))); got != n {
			t.Fatalf("Bytes of %d: %d", n, got)
		}
	}
}

// P22.2.

// subs holds what Sub and Same tell of two lists, and of each with itself; and that they are as they were.
func subs(t *testing.T, a, b []recovery.Held, ab, ba bool) {
	t.Helper()
	wasA, wasB := show(a), show(b)
	for range 2 {
		if recovery.Sub(a, b) != ab || recovery.Sub(b, a) != ba {
			t.Fatalf("Sub: %v, %v; want %v, %v, of %s and %s", recovery.Sub(a, b), recovery.Sub(b, a), ab, ba, wasA, wasB)
		}
		if recovery.Same(a, b) != (ab && ba) || recovery.Same(b, a) != (ab && ba) {
			t.Fatalf("Same: %v, %v; want %v, of %s and %s", recovery.Same(a, b), recovery.Same(b, a), ab && ba, wasA, wasB)
		}
	}
	for _, l := range [][]recovery.Held{a, b} {
		if !recovery.Sub(l, l) || !recovery.Same(l, l) {
			t.Fatalf("%s isn't in itself", show(l))
		}
	}
	if show(a) != wasA || show(b) != wasB {
		t.Fatal("what was given has changed")
	}
}

// TestSubOfNone: none, nil or empty.
func TestSubOfNone(t *testing.T) {
	some := [][]recovery.Held{
		list(recovery.Held{}),
		list(holding(bind(0, 1, "", 0, 0))),
		list(holding(bind(3, 2, "v1", 20, 5), piece(3, 2, 0, "abc"))),
		list(holding(bind(3, 2, "v1", 20, 5)), holding(bind(4, 2, "v1", 20, 5))),
	}
	nones := [][]recovery.Held{nil, {}, make([]recovery.Held, 0, 5), some[3][:0]}
	for _, none := range nones {
		for _, other := range nones {
			subs(t, none, other, true, true)
		}
		for _, l := range some {
			subs(t, none, l, true, false)
		}
	}
}

// apart is a change that a Held may have, and which of Sub of it and what it was, and of that and it, are true.
type apart struct {
	name    string
	change  func(h *recovery.Held)
	of, two bool
}

// base is what the changes are made of.
func base() recovery.Held {
	return holding(bind(3, 2, "v1", 20, 5), piece(3, 2, 0, "abc"), piece(3, 2, 4, "de"), piece(3, 2, 9, "f"))
}

// aparts are all changes of one thing alone.
func aparts() []apart {
	return []apart{
		{"nothing", func(h *recovery.Held) {}, true, true},
		{"Object less", func(h *recovery.Held) { h.Bind.Object = 2 }, false, false},
		{"Object greater", func(h *recovery.Held) { h.Bind.Object = 4 }, false, false},
		{"Object far", func(h *recovery.Held) { h.Bind.Object += 1 << 32 }, false, false},
		{"Gen less", func(h *recovery.Held) { h.Bind.Gen = 1 }, false, false},
		{"Gen greater", func(h *recovery.Held) { h.Bind.Gen = 3 }, false, false},
		{"Gen none", func(h *recovery.Held) { h.Bind.Gen = 0 }, false, false},
		{"Tag other", func(h *recovery.Held) { h.Bind.Tag = "v2" }, false, false},
		{"Tag shorter", func(h *recovery.Held) { h.Bind.Tag = "v" }, false, false},
		{"Tag longer", func(h *recovery.Held) { h.Bind.Tag = "v1 " }, false, false},
		{"Tag greater letter", func(h *recovery.Held) { h.Bind.Tag = "V1" }, false, false},
		{"Tag none", func(h *recovery.Held) { h.Bind.Tag = "" }, false, false},
		{"Length less", func(h *recovery.Held) { h.Bind.Length = 19 }, false, false},
		{"Length greater", func(h *recovery.Held) { h.Bind.Length = 21 }, false, false},
		{"Length none", func(h *recovery.Held) { h.Bind.Length = 0 }, false, false},
		{"Tick one less", func(h *recovery.Held) { h.Bind.Tick = 4 }, true, false},
		{"Tick none", func(h *recovery.Held) { h.Bind.Tick = 0 }, true, false},
		{"Tick least", func(h *recovery.Held) { h.Bind.Tick = math.MinInt }, true, false},
		{"Tick one greater", func(h *recovery.Held) { h.Bind.Tick = 6 }, false, true},
		{"Tick greatest", func(h *recovery.Held) { h.Bind.Tick = math.MaxInt }, false, true},
		{"a piece's Object", func(h *recovery.Held) { h.Pieces[1].Object = 4 }, false, false},
		{"a piece's Gen", func(h *recovery.Held) { h.Pieces[1].Gen = 1 }, false, false},
		{"a piece's place less", func(h *recovery.Held) { h.Pieces[1].Index = 3 }, false, false},
		{"a piece's place greater", func(h *recovery.Held) { h.Pieces[1].Index = 5 }, false, false},
		{"a piece's place another one's", func(h *recovery.Held) { h.Pieces[1].Index = 9 }, false, false},
		{"a body's first byte", func(h *recovery.Held) { h.Pieces[1].Body = []byte("De") }, false, false},
		{"a body's last byte", func(h *recovery.Held) { h.Pieces[1].Body = []byte("dE") }, false, false},
		{"a body longer", func(h *recovery.Held) { h.Pieces[1].Body = []byte("de\x00") }, false, false},
		{"a body shorter", func(h *recovery.Held) { h.Pieces[1].Body = []byte("d") }, false, false},
		{"a body empty", func(h *recovery.Held) { h.Pieces[1].Body = nil }, false, false},
		{"a body another one's", func(h *recovery.Held) { h.Pieces[1].Body = []byte("f") }, false, false},
		{"without the first piece", func(h *recovery.Held) { h.Pieces = h.Pieces[1:] }, true, false},
		{"without the second one", func(h *recovery.Held) { h.Pieces = slices.Delete(h.Pieces, 1, 2) }, true, false},
		{"without the last one", func(h *recovery.Held) { h.Pieces = h.Pieces[:2] }, true, false},
		{"without pieces", func(h *recovery.Held) { h.Pieces = nil }, true, false},
		{"with empty pieces", func(h *recovery.Held) { h.Pieces = []api.Piece{} }, true, false},
		{"one more", func(h *recovery.Held) { h.Pieces = append(h.Pieces, piece(3, 2, 10, "g")) }, false, true},
		{"one more in front", func(h *recovery.Held) { h.Pieces = slices.Insert(h.Pieces, 0, piece(3, 2, 1, "g")) }, false, true},
		{"one more, empty", func(h *recovery.Held) { h.Pieces = append(h.Pieces, api.Piece{}) }, false, true},
		{"a piece twice", func(h *recovery.Held) { h.Pieces = append(h.Pieces, piece(3, 2, 4, "de")) }, true, true},
		{"a place twice", func(h *recovery.Held) { h.Pieces = append(h.Pieces, piece(3, 2, 4, "other")) }, false, true},
		{"pieces in another order", func(h *recovery.Held) { slices.Reverse(h.Pieces) }, true, true},
		{"a piece less, one more", func(h *recovery.Held) { h.Pieces[2] = piece(3, 2, 8, "g") }, false, false},
		{"a piece less, known later", func(h *recovery.Held) { h.Pieces, h.Bind.Tick = h.Pieces[1:], 6 }, false, false},
		{"a piece less, known earlier", func(h *recovery.Held) { h.Pieces, h.Bind.Tick = h.Pieces[1:], 4 }, true, false},
		{"a piece more, known earlier", func(h *recovery.Held) { h.Pieces, h.Bind.Tick = append(h.Pieces, piece(3, 2, 8, "g")), 4 }, false, false},
		{"zero", func(h *recovery.Held) { *h = recovery.Held{} }, false, false},
	}
}

// TestSubApart: one thing alone is another one; whatever else is held, in front and behind.
func TestSubApart(t *testing.T) {
	others := list(holding(bind(1, 2, "v1", 20, 5), piece(1, 2, 0, "abc")), holding(bind(5, 1, "", 20, 5)), holding(bind(3, 9, "v1", 20, 5), piece(3, 9, 4, "de")))
	for _, a := range aparts() {
		t.Run(a.name, func(t *testing.T) {
			was, is := base(), base()
			a.change(&is)
			subs(t, list(is), list(was), a.of, a.two)
			for n := range len(others) + 1 {
				for m := range len(others) + 1 {
					subs(t, slices.Insert(slices.Clone(others), n, is), slices.Insert(slices.Clone(others), m, was), a.of, a.two)
				}
			}
			subs(t, list(is), append(slices.Clone(others), was), a.of, false)
			subs(t, append(slices.Clone(others), is), list(was), false, a.two)
		})
	}
}

// TestSubEmptyBodies: no body, nil and empty, are the same.
func TestSubEmptyBodies(t *testing.T) {
	a := list(holding(bind(1, 1, "a", 1, 1), api.Piece{Object: 1, Gen: 1, Index: 5}))
	b := list(holding(bind(1, 1, "a", 1, 1), api.Piece{Object: 1, Gen: 1, Index: 5, Body: []byte{}}))
	subs(t, a, b, true, true)
	subs(t, a, list(holding(bind(1, 1, "a", 1, 1), piece(1, 1, 5, "\x00"))), false, false)
}

// TestSubOrder: lists in any order; each of a has its own in b.
func TestSubOrder(t *testing.T) {
	x, y, z := holding(bind(1, 1, "a", 20, 5), piece(1, 1, 0, "abc")), holding(bind(2, 1, "a", 20, 5), piece(2, 1, 0, "abc")), holding(bind(3, 4, "c", 9, 9))
	orders := [][]recovery.Held{{x, y, z}, {x, z, y}, {y, x, z}, {y, z, x}, {z, x, y}, {z, y, x}}
	for _, a := range orders {
		for _, b := range orders {
			subs(t, a, b, true, true)
			for n := range 4 {
				subs(t, a[:n], b, true, n == 3)
			}
		}
	}
	subs(t, list(x, y), list(y, z), false, false)
	subs(t, list(x, y), list(x, z), false, false)
}

// TestSubTwice: the same object twice is one that is there, on either side; one alone must have all that is asked for.
func TestSubTwice(t *testing.T) {
	p, q := piece(3, 1, 0, "abc"), piece(3, 1, 1, "de")
	of := func(tick int, l ...api.Piece) recovery.Held { return holding(bind(3, 1, "a", 20, tick), l...) }
	for _, c := range []struct {
		a, b   []recovery.Held
		ab, ba bool
	}{
		{list(of(5, p), of(5, p)), list(of(5, p)), true, true},
		{list(of(5, p), of(5, p)), list(of(5, p), of(5, p), of(5, p)), true, true},
		{list(of(5, p), of(5, q)), list(of(5, p, q)), true, false},
		{list(of(5, p), of(5, p, q)), list(of(5, q, p)), true, true},
		{list(of(5, p), of(6, p)), list(of(6, p)), true, true},
		{list(of(5, p), of(6, p)), list(of(5, p)), false, true},
		{list(of(4, p, q)), list(of(3, p, q), of(5, p)), false, false},
		{list(of(4, p)), list(of(3, p, q), of(5, p)), true, false},
		{list(of(4, p), of(2, p, q)), list(of(3, p, q), of(5, p)), true, false},
		{list(of(5), of(5)), list(of(5, p), of(4)), true, false},
	} {
		subs(t, c.a, c.b, c.ab, c.ba)
		subs(t, c.b, c.a, c.ba, c.ab)
		subs(t, rev(c.a), c.b, c.ab, c.ba)
		subs(t, c.a, rev(c.b), c.ab, c.ba)
	}
}

// rev is a list the other way round.
func rev(l []recovery.Held) []recovery.Held {
	l = slices.Clone(l)
	slices.Reverse(l)
	return l
}

// TestSubSmall: all lists of two at most of some, held against all others.
func TestSubSmall(t *testing.T) {
	some := list(recovery.Held{}, base())
	for _, a := range aparts() {
		if len(some) < 40 {
			h := base()
			a.change(&h)
			some = append(some, h)
		}
	}
	dice := seeded(7)
	lists := [][]recovery.Held{nil}
	for _, x := range some {
		lists = append(lists, list(x))
		for range 4 {
			lists = append(lists, list(x, some[dice.next(len(some))]))
		}
	}
	both := 0
	for _, a := range lists {
		for _, b := range lists {
			want := sub(a, b)
			if recovery.Sub(a, b) != want || recovery.Same(a, b) != (want && sub(b, a)) {
				t.Fatalf("Sub: %v, Same: %v, of %s and %s", recovery.Sub(a, b), recovery.Same(a, b), show(a), show(b))
			}
			if want {
				both++
			}
		}
	}
	if both < 1000 {
		t.Fatalf("just %d are in another one", both)
	}
}

// TestSubAny: lists of any numbers and bytes.
func TestSubAny(t *testing.T) {
	dice, numbers := seeded(3), edges()
	number := func() int { return numbers[dice.next(len(numbers))] }
	for n := range 4000 {
		a := make([]recovery.Held, dice.next(4))
		for i := range a {
			a[i].Bind = bind(number(), number(), text(dice.next(3), dice.next(3)), number(), number())
			for range dice.next(4) {
				a[i].Pieces = append(a[i].Pieces, piece(number(), number(), number(), text(dice.next(3), dice.next(3))))
			}
		}
		b := make([]recovery.Held, len(a))
		for i, h := range a {
			b[i] = holding(h.Bind, slices.Clone(h.Pieces)...)
		}
		if !recovery.Same(a, b) || !recovery.Same(rev(a), b) {
			t.Fatalf("%d: %s isn't the same as itself", n, show(a))
		}
		if len(b) > 0 {
			h := &b[dice.next(len(b))]
			h.Bind.Tick = number()
			if len(h.Pieces) > 0 {
				h.Pieces[dice.next(len(h.Pieces))].Index = number()
			}
		}
		subs(t, a, b, sub(a, b), sub(b, a))
	}
}

// TestSubMany: as many slices as an object may have, rising and falling.
func TestSubMany(t *testing.T) {
	a := holding(bind(1, 1, "a", 4096, 5))
	for i := range mostIndex + 1 {
		a.Pieces = append(a.Pieces, piece(1, 1, i, fmt.Sprint(i)))
	}
	b := holding(a.Bind, slices.Clone(a.Pieces)...)
	slices.Reverse(b.Pieces)
	subs(t, list(a), list(b), true, true)
	b.Pieces = slices.Delete(b.Pieces, 2000, 2001)
	subs(t, list(a), list(b), false, true)
}

// P22.3.

// plans are such of a device: each Keep of few pages, each page torn at some places, and such as may not be of it.
func plans(d *flash.Device) []api.Plan {
	n := d.Dirty()
	out := slices.Collect(crash.All(min(n, 5)))
	for _, cut := range []int{1, 15, d.Shape().Bytes - 1, d.Shape().Bytes} {
		out = slices.AppendSeq(out, crash.Torn(min(n, 3), cut))
	}
	out = append(out, kept, plan(math.MaxUint64-1, -1, 0), plan(math.MaxUint64-2, -1, 0), plan(1<<63, -1, 0), plan(math.MaxUint64, 0, 7), plan(0, 0, 7))
	for _, torn := range []int{math.MinInt, -2, n - 1, n, n + 1, 63, 64, math.MaxInt} {
		for _, cut := range []int{math.MinInt, -1, 0, 9, d.Shape().Bytes + 1, math.MaxInt} {
			out = append(out, plan(0, torn, cut), plan(math.MaxUint64, torn, cut))
		}
	}
	return out
}

// TestAfter: told by hand, page by page. Of six pages that aren't lasting the first one is a slice's, the next one a bind's; then there are the head of a segment, two slices and what was known later.
func TestAfter(t *testing.T) {
	x := begun(t, small)
	x.does(binds(1, "a", 20, 5), syncs(), puts(1, 0, "abc"), binds(2, "b", 30, 3), puts(2, 1, "x"), puts(1, 7, "de"), touches(1, 8))
	old, now := bind(1, 1, "a", 20, 5), bind(1, 1, "a", 20, 8)
	other := bind(2, 1, "b", 30, 3)
	for _, c := range []struct {
		plan api.Plan
		want []recovery.Held
	}{
		{lost, list(holding(old))},
		{plan(1, -1, 0), list(holding(old, piece(1, 1, 0, "abc")))},
		{plan(2, -1, 0), list(holding(old))}, // What is behind a record that isn't there doesn't count.
		{plan(3, -1, 0), list(holding(old, piece(1, 1, 0, "abc")), holding(other))},
		{plan(4+8, -1, 0), list(holding(old))}, // There is no bind of what slice 1 of object 2 is of.
		{plan(3+4+8, -1, 0), list(holding(old, piece(1, 1, 0, "abc")), holding(other, piece(2, 1, 1, "x")))},
		{plan(3+8+16+32, -1, 0), list(holding(old, piece(1, 1, 0, "abc")), holding(other))}, // Nor do records in a segment without a head.
		{plan(4+8+16+32, -1, 0), list(holding(now, piece(1, 1, 7, "de")))},
		{plan(63, -1, 0), list(holding(now, piece(1, 1, 0, "abc"), piece(1, 1, 7, "de")), holding(other, piece(2, 1, 1, "x")))},
		{kept, list(holding(now, piece(1, 1, 0, "abc"), piece(1, 1, 7, "de")), holding(other, piece(2, 1, 1, "x")))},
		{plan(31, 5, 20), list(holding(old, piece(1, 1, 0, "abc"), piece(1, 1, 7, "de")), holding(other, piece(2, 1, 1, "x")))},
		{plan(31, 5, 32), list(holding(now, piece(1, 1, 0, "abc"), piece(1, 1, 7, "de")), holding(other, piece(2, 1, 1, "x")))},
		{plan(63, 0, 32), list(holding(now, piece(1, 1, 0, "abc"), piece(1, 1, 7, "de")), holding(other, piece(2, 1, 1, "x")))},
		{plan(63, 0, 0), list(holding(now, piece(1, 1, 7, "de")))},
	} {
		y := x.again(c.plan)
		holds(t, y.s, c.want...)
		if !recovery.Sub(c.want, recovery.All(x.s)) || recovery.Same(c.want, recovery.All(x.s)) != (len(c.want) == 2 && c.want[0].Bind == now && len(c.want[0].Pieces) == 2) {
			t.Fatalf("behind %+v: Sub or Same", c.plan)
		}
	}
	x.does(syncs())
	for _, c := range []api.Plan{lost, kept, plan(0, 5, 1), plan(5, 0, 0)} {
		holds(t, x.again(c).s, recovery.All(x.s)...)
	}
}

// TestAfterGoesItsOwnWay: what is done behind a crash is done nowhere else, and goes on as on a Store that was Opened.
func TestAfterGoesItsOwnWay(t *testing.T) {
	deeds := []deed{binds(1, "n", 20, 9), binds(3, "n", 20, 9), touches(1, 9), puts(1, 9, "n"), drops(1), purges(1), purges(4), syncs(), cleans(0), seals()}
	x := begun(t, shape(6, 4, 32))
	x.does(binds(1, "a", 20, 5), puts(1, 0, "abc"), puts(1, 1, "de"), binds(4, "b", 20, 5), drops(4), puts(1, 2, "fg"), touches(1, 7))
	was := x.s.Copy()
	for _, c := range []api.Plan{lost, kept, plan(1, -1, 0), plan(2, 0, 20)} {
		for _, d := range deeds {
			y, z := x.again(c), x.again(c)
			if y.s == z.s || y.s.Log() == z.s.Log() || y.s.Log().Device() == z.s.Log().Device() {
				t.Fatal("two answers of After are one")
			}
			y.tries(d)
			y.holds()
			z.holds()
			sameStore(t, x.s, was)
			z.tries(d)
			sameStore(t, z.s, y.s)
		}
	}
	y := x.again(lost)
	back := recovery.All(y.s)
	for _, d := range deeds {
		x.tries(d)
		x.holds()
		holds(t, y.s, back...)
	}
}

// TestAfterKnowsGenerations: a slice whose bind was lost counts, too.
func TestAfterKnowsGenerations(t *testing.T) {
	x := begun(t, small)
	x.does(binds(5, "x", 1, 1), binds(1, "a", 20, 5), puts(1, 0, "abc"), puts(1, 1, "de"))
	for keep, want := range map[uint64]int{0: 1, 1 + 2: 1, 1 + 2 + 4: 2, 1 + 2 + 4 + 8: 2, 8: 1, 8 + 32: 1, 8 + 16 + 32: 2, 16: 1, 16 + 32: 2, 1 + 16 + 32: 2, 63: 2} {
		y := x.again(plan(keep, -1, 0))
		y.does(binds(1, "n", 20, 9))
		if h, _ := recovery.Of(y.s, 1); !like(h, holding(bind(1, want, "n", 20, 9))) {
			t.Fatalf("Keep %d: %s; want generation %d", keep, show(list(h)), want)
		}
	}
}

// TestAfterOften: crash behind crash.
func TestAfterOften(t *testing.T) {
	x := begun(t, wide)
	x.does(binds(1, "a", 20, 5), puts(1, 0, "abc"), syncs(), puts(1, 1, "de"), touches(1, 7))
	for n := range 12 {
		y := x.again(plan(uint64(n%4), n%3-1, 9*n))
		for _, c := range plans(y.s.Log().Device()) {
			holds(t, y.again(c).s, recovery.All(y.s)...)
		}
		y.tries(puts(1, 10+n, "more"), cleans(0), touches(1, 9+n))
		x = y
	}
}

// TestMoreThan64: of pages that aren't lasting those from the 64th on are never kept whole, but for a torn one.
func TestMoreThan64(t *testing.T) {
	x := begun(t, shape(4, 64, 32))
	x.does(binds(1, "a", 20, 5))
	for i := range 100 {
		x.does(puts(1, i, fmt.Sprint("no ", i)))
	}
	if n := x.s.Log().Device().Dirty(); n != 103 {
		t.Fatalf("%d pages aren't lasting", n)
	}
	for _, c := range []struct {
		plan api.Plan
		want int
	}{{kept, 62}, {lost, 0}, {plan(math.MaxUint64, 64, 32), 62}, {plan(math.MaxUint64>>1, 63, 32), 62}, {plan(math.MaxUint64, 63, 5), 61}} {
		if n := len(x.again(c.plan).p.sheets[1].slices); n != c.want {
			t.Fatalf("behind %+v there are %d slices; want %d", c.plan, n, c.want)
		}
	}
	x.does(syncs())
	holds(t, x.again(lost).s, recovery.All(x.s)...)
}

// TestSafeNot: what was laid past the store may make it unsafe, just behind the crashes that tell.
func TestSafeNot(t *testing.T) {
	start := func(t *testing.T) *pair {
		x := begun(t, wide)
		x.does(binds(1, "a", 20, 5), puts(1, 0, "abc"), binds(2, "b", 20, 5), drops(2), syncs())
		return x
	}
	for _, c := range []struct {
		name string
		more record
	}{
		{"a bind of an object that has none", aBind(bind(3, 1, "c", 20, 5))},
		{"a bind of an object that is gone", aBind(bind(2, 2, "b", 20, 5))},
		{"a bind of another generation", aBind(bind(1, 2, "a", 20, 5))},
		{"a later Tick", aBind(bind(1, 1, "a", 20, 6))},
		{"a slice", aPiece(piece(1, 1, 1, "de"))},
		{"another body", aPiece(piece(1, 1, 0, "abd"))},
		{"a floor of an object that has none", aDrop(3, 1)},
		{"a greater floor", aPurge(2, 2)},
		{"a floor beneath a bind", aDrop(0, 1)},
		{"the bind is gone", aDrop(1, 1)},
	} {
		t.Run(c.name, func(t *testing.T) {
			x := start(t)
			lays(t, x.s.Log(), c.more)
			safe(t, x.s, kept, false)
			safe(t, x.s, plan(0, 0, 32), false)
			safe(t, x.s, lost, true)
			safe(t, x.s, plan(1, 0, 9), true)
		})
	}
	for _, c := range []struct {
		name string
		more record
	}{
		{"what was", aBind(bind(1, 1, "a", 20, 4))},
		{"the same again", aPiece(piece(1, 1, 0, "abc"))},
		{"of an older generation", aBind(bind(2, 1, "x", 20, 9))},
		{"of what isn't bound", aPiece(piece(3, 1, 0, "abc"))},
		{"the same floor", aPurge(2, 1)},
		{"what says nothing", record{9, []byte("abcdefghi")}},
	} {
		t.Run(c.name, func(t *testing.T) {
			x := start(t)
			lays(t, x.s.Log(), c.more)
			safe(t, x.s, kept, true)
			safe(t, x.s, lost, true)
		})
	}
}

// TestSafeFloors: of each object alone, a floor that is lost, one that is less, and one that is new.
func TestSafeFloors(t *testing.T) {
	for object := range objects {
		x := opened(t, laidOut(t, small, aDrop(object, 7)))
		safe(t, x, lost, false)
		safe(t, x, kept, true)
		if s := after(t, x, lost); s.Index().Floor(object) != 0 || len(recovery.All(s)) != 0 {
			t.Fatalf("object %d: there is more than a floor", object)
		}
		d := laidOut(t, small, aDrop(object, 7))
		d.Sync()
		y := opened(t, d)
		safe(t, y, lost, true)
		lays(t, y.Log(), aPurge(object, 8))
		safe(t, y, lost, true)
		safe(t, y, kept, false)
		z := opened(t, d.Copy())
		lays(t, z.Log(), aDrop(object, 9))
		z = opened(t, z.Log().Device())
		safe(t, z, lost, false)
		safe(t, z, kept, true)
	}
}

// TestSafeLess: what is lost past the store is no more than it was, but for a floor.
func TestSafeLess(t *testing.T) {
	x := begun(t, tight)
	x.does(binds(1, "a", 20, 5), puts(1, 0, "abc"), puts(1, 1, "de"), syncs())
	for seg := range 2 {
		s := x.s.Copy()
		s.Log().Erase(seg)
		safe(t, s, lost, true)
	}
	y := begun(t, tight)
	y.does(binds(1, "a", 20, 5), drops(1), seals())
	s := y.s.Copy()
	s.Log().Erase(0)
	safe(t, s, lost, true)
	s.Log().Erase(1)
	safe(t, s, lost, false)
}

// TestNobodyMade: nothing is held, and there is no Store to be Opened.
func TestNobodyMade(t *testing.T) {
	for _, s := range nobodys() {
		if l := recovery.All(s); len(l) != 0 {
			t.Fatalf("All: %s", show(l))
		}
		for _, n := range edges() {
			if h, is := recovery.Of(s, n); is || !like(h, recovery.Held{}) {
				t.Fatalf("Of(%d): %s, %v", n, show(list(h)), is)
			}
			for _, c := range []api.Plan{lost, kept, plan(uint64(n), n, n), {}} {
				if x, e := recovery.After(s, c); x != nil || e != api.ErrNil {
					t.Fatalf("After %+v: %v, %d", c, x, e)
				}
				if recovery.Safe(s, c) {
					t.Fatalf("Safe %+v: there is no store", c)
				}
			}
		}
	}
}

// P22.4.

// row is a row of deeds, of each kind.
func row() []deed {
	return []deed{
		binds(1, "a", 20, 5), puts(1, 0, "abc"), puts(1, 1, "de"), touches(1, 6), syncs(), puts(1, 2, "later"), touches(1, 7), binds(2, "b", 20, 5), puts(2, 0, "x"),
		binds(1, "c", 20, 5), puts(1, 0, "new"), purges(2), binds(2, "d", 20, 5), puts(2, 5, "y"), seals(), cleans(0), touches(2, 9), puts(1, 1, "z"), cleans(1), cleans(2), drops(1), puts(2, 6, "w"), binds(1, "e", 20, 5),
	}
}

// TestEachCrash: each crash behind each deed of a row; who goes on behind it does so rightly.
func TestEachCrash(t *testing.T) {
	for _, shape := range []api.Shape{shape(6, 5, 32), shape(5, 9, 16)} {
		x := begun(t, shape)
		for _, d := range row() {
			x.tries(d)
			x.holds()
			for _, c := range plans(x.s.Log().Device()) {
				y := x.again(c)
				for _, object := range []int{1, 2} {
					y.tries(binds(object, "n", 9, 9), cleans(object))
				}
				y.holds()
				y.again(lost)
			}
		}
	}
}

// TestEachCut: each page that isn't lasting torn behind each of its bytes, with the other ones kept and lost.
func TestEachCut(t *testing.T) {
	x := begun(t, small)
	x.does(binds(1, "a", 20, 5), puts(1, 0, "abc"), syncs(), puts(1, 1, "de"))
	for _, d := range []deed{touches(1, 9), binds(2, "b", 20, 5), puts(1, 2, "fgh"), puts(1, 3, "more than there are bytes in a page of its device"), puts(1, 4, strings.Repeat("\xff", 40))} {
		y := x.copied()
		y.does(d)
		for torn := range y.s.Log().Device().Dirty() {
			for cut := range 34 {
				y.again(plan(math.MaxUint64, torn, cut))
				y.again(plan(0, torn, cut))
				y.again(plan(1, torn, cut))
			}
		}
	}
}

// TestEachKeep: each of the pages that aren't lasting is kept, or isn't.
func TestEachKeep(t *testing.T) {
	x := begun(t, shape(5, 4, 32))
	x.does(binds(1, "a", 20, 5), puts(1, 0, "abc"), binds(2, "b", 20, 5), puts(2, 0, "x"), touches(1, 8), puts(1, 1, "de"), puts(2, 3, "y"))
	if n := x.s.Log().Device().Dirty(); n != 10 {
		t.Fatalf("%d pages aren't lasting", n)
	}
	for c := range crash.All(10) {
		x.again(c)
	}
	x.does(drops(2))
	for c := range crash.All(10) {
		x.again(c)
	}
}

// TestGoneStaysGone: no crash brings back what was dropped, purged, or bound anew.
func TestGoneStaysGone(t *testing.T) {
	for _, away := range []deed{drops(1), purges(1), binds(1, "b", 20, 5)} {
		x := begun(t, small)
		x.does(binds(1, "a", 20, 5), puts(1, 0, "abc"), away)
		for _, c := range plans(x.s.Log().Device()) {
			y := x.again(c)
			if h, is := recovery.Of(y.s, 1); y.s.Index().Floor(1) != 1 || is && h.Bind.Tag == "a" || len(h.Pieces) > 0 {
				t.Fatalf("%s: behind %+v it is back", strings.Join(x.done, "; "), c)
			}
		}
	}
}

// TestCleanEnds: a Clean that has no room ends half way; nothing is lost.
func TestCleanEnds(t *testing.T) {
	x := begun(t, tight)
	x.does(binds(1, "a", 20, 5), puts(1, 0, "abc"), puts(1, 1, "de"))
	for seg := range 4 {
		x.tries(cleans(seg))
		x.holds()
		for _, c := range plans(x.s.Log().Device()) {
			x.again(c)
		}
	}
}

// rowDeeds are few deeds, of which all rows are done on small devices.
func rowDeeds() []deed {
	return []deed{binds(1, "a", 20, 5), binds(2, "b", 20, 5), puts(1, 0, "abc"), puts(1, 1, "de"), touches(1, 6), drops(1), purges(1), purges(2), syncs(), cleans(0), cleans(1)}
}

// TestRows: all rows of few deeds, with crashes behind them.
func TestRows(t *testing.T) {
	deeds := rowDeeds()
	n := 0
	var follow func(x *pair, left int)
	follow = func(x *pair, left int) {
		x.holds()
		x.again(kept)
		x.again(lost)
		if n++; n%29 == 0 {
			for _, c := range plans(x.s.Log().Device()) {
				x.again(c)
			}
		}
		if left == 0 {
			return
		}
		for _, d := range deeds {
			y := x.copied()
			y.tries(d)
			follow(y, left-1)
		}
	}
	follow(begun(t, shape(4, 3, 32)), 3)
	follow(begun(t, tight), 3)
}

// deed is any one, mostly such that it comes to something.
func (x *dice) deed(s api.Shape, tick int) deed {
	object := x.next(4)
	if x.next(40) == 0 {
		object = []int{15, 9}[x.next(2)]
	}
	switch x.next(13) {
	case 0:
		return binds(object, "abc"[:x.next(3)], x.next(4098), x.next(20))
	case 1, 2, 3, 4, 5:
		return puts(object, []int{x.next(6), x.next(6), x.next(6), 4095 + x.next(3)}[x.next(4)], text(x.next(1+min(66, 2*s.Bytes)), x.next(1000)))
	case 6:
		return touches(object, tick+x.next(4))
	case 7:
		if x.next(3) == 0 {
			return purges(object)
		}
		return drops(object)
	case 8:
		return syncs()
	case 9:
		return seals()
	}
	return cleans(x.next(s.Segments+2) - 1)
}

// TestPlays: long rows of any deeds on devices of many shapes; with crashes, behind which each goes on.
func TestPlays(t *testing.T) {
	shapes := []api.Shape{tight, small, shape(4, 3, 64), shape(5, 7, 16), shape(6, 5, 48), shape(4, 12, 20), shape(9, 4, 128), shape(4, 1, 16), shape(16, 2, 256)}
	for seed, shape := range slices.Repeat(shapes, 4) {
		dice := seeded(seed)
		x := begun(t, shape)
		for n := range 150 {
			x.tries(dice.deed(shape, n/8))
			x.holds()
			if n%3 == 0 {
				x.again(dice.plan(x.s.Log().Device().Dirty(), shape.Bytes))
			}
			if n%5 == 0 {
				synced(x)
			}
			if dice.next(25) == 0 {
				x = x.again(dice.plan(x.s.Log().Device().Dirty(), shape.Bytes))
			}
		}
	}
}

// synced holds that what is Synced is Same behind every crash.
func synced(x *pair) {
	x.t.Helper()
	y := x.copied()
	y.does(syncs())
	was := recovery.All(y.s)
	for _, c := range []api.Plan{lost, kept, plan(5, 1, 9)} {
		if z := y.again(c); !recovery.Same(recovery.All(z.s), was) || !slices.EqualFunc(recovery.All(z.s), was, like) {
			y.tell()
			x.t.Fatalf("behind %+v there is %s; synced was %s", c, show(recovery.All(z.s)), show(was))
		}
	}
}

// The rules that hold everywhere.

// spoil changes all bytes of a list, also those behind its length.
func spoil(b []byte) {
	b = b[:cap(b)]
	for i := range b {
		b[i] ^= 0xA5
	}
}

// spoilHeld changes all that was handed out, also what is behind a list's length.
func spoilHeld(h recovery.Held) {
	l := h.Pieces[:cap(h.Pieces)]
	for _, p := range l {
		spoil(p.Body)
	}
	clear(l)
}

// TestAnswersAreNobodys: what Of and All hand out may be changed.
func TestAnswersAreNobodys(t *testing.T) {
	x := begun(t, small)
	x.does(binds(1, "a", 20, 5), puts(1, 0, "abc"), puts(1, 1, "de"), binds(2, "b", 20, 5), puts(2, 9, "f"), touches(2, 9))
	want := held(x.p.sheets)
	h, _ := recovery.Of(x.s, 1)
	other, _ := recovery.Of(x.s, 1)
	l, others := recovery.All(x.s), recovery.All(x.s)
	// One body, and what is behind it, is none of the next one's.
	for n := range h.Pieces {
		spoil(h.Pieces[n].Body)
		for m := n + 1; m < len(h.Pieces); m++ {
			if !likePiece(h.Pieces[m], want[0].Pieces[m]) {
				t.Fatalf("bodies %d and %d share memory", n, m)
			}
		}
	}
	spoilHeld(h)
	spoilHeld(l[0])
	if !like(l[1], want[1]) || !like(other, want[0]) || !slices.EqualFunc(others, want, like) {
		t.Fatal("two answers share memory")
	}
	clear(l[:cap(l)])
	if !slices.EqualFunc(others, want, like) {
		t.Fatal("two answers of All share memory")
	}
	x.holds()
	x.again(kept)
	spoilHeld(others[0])
	spoilHeld(others[1])
	x.holds()
}

// TestHeldStays: what was handed out stays as it was, whatever the Store does.
func TestHeldStays(t *testing.T) {
	x := begun(t, small)
	x.does(binds(1, "a", 20, 5), puts(1, 0, "abc"), puts(1, 1, "de"))
	want := held(x.p.sheets)
	l := recovery.All(x.s)
	h, _ := recovery.Of(x.s, 1)
	x.does(touches(1, 9), puts(1, 2, "x"), purges(1), binds(1, "b", 9, 9))
	for seg := range 4 {
		x.tries(seals(), cleans(seg))
	}
	x.s.Log().Device().Crash(lost)
	if !slices.EqualFunc(l, want, like) || !like(h, want[0]) {
		t.Fatalf("what was handed out has changed: %s", show(l))
	}
}

// lurking are lists that have more of their memory behind their length.
func lurking(t *testing.T) ([]recovery.Held, func() bool) {
	t.Helper()
	fresh := func() []recovery.Held {
		body := []byte("abcXYZ")
		pieces := []api.Piece{{Object: 3, Gen: 2, Index: 0, Body: body[:3]}, piece(3, 2, 4, "de"), piece(3, 2, 9, "behind")}
		return []recovery.Held{holding(bind(3, 2, "v1", 20, 5), pieces[:2]...), holding(bind(4, 1, "v", 9, 9)), holding(bind(9, 9, "behind", 9, 9), piece(9, 9, 9, "behind"))}
	}
	l, was := fresh(), fresh()
	return l[:2], func() bool {
		return slices.EqualFunc(l[:3], was, like) && bytes.Equal(l[0].Pieces[0].Body[:6], []byte("abcXYZ")) && likePiece(l[0].Pieces[:3][2], was[0].Pieces[:3][2])
	}
}

// TestGivenStays: lists are neither changed nor read behind their length.
func TestGivenStays(t *testing.T) {
	a, stayed := lurking(t)
	b, stayedToo := lurking(t)
	want := list(holding(bind(3, 2, "v1", 20, 5), piece(3, 2, 0, "abc"), piece(3, 2, 4, "de")), holding(bind(4, 1, "v", 9, 9)))
	subs(t, a, b, true, true)
	subs(t, a, want, true, true)
	subs(t, append(slices.Clone(a), a[:3][2]), b, false, true)
	subs(t, list(holding(bind(3, 2, "v1", 20, 5), a[0].Pieces[:3]...)), b, false, false)
	b[0].Bind.Tick = 4
	subs(t, b, a, true, false)
	b[0].Bind.Tick = 5
	if n := recovery.Bytes(a); n != 5 {
		t.Fatalf("Bytes: %d", n)
	}
	if !stayed() || !stayedToo() {
		t.Fatal("what was given has changed")
	}
}

// TestNoOtherState: the same calls come to the same, and many are asked at the same time.
func TestNoOtherState(t *testing.T) {
	x := begun(t, wide)
	x.does(binds(1, "a", 20, 5), puts(1, 0, "abc"), syncs(), puts(1, 1, "de"), binds(2, "b", 20, 5))
	was := x.s.Copy()
	want := held(x.p.sheets)
	less := list(holding(bind(1, 1, "a", 20, 5), piece(1, 1, 0, "abc")))
	var wait sync.WaitGroup
	for range 4 {
		wait.Go(func() {
			for range 50 {
				l := recovery.All(x.s)
				s, e := recovery.After(x.s, lost)
				if e != api.OK || !slices.EqualFunc(l, want, like) || !slices.EqualFunc(recovery.All(s), less, like) || !recovery.Sub(less, want) || recovery.Same(less, want) || !recovery.Safe(x.s, kept) || recovery.Bytes(l) != 5 {
					t.Errorf("%s, behind the crash %s", show(l), show(recovery.All(s)))
					return
				}
			}
		})
	}
	wait.Wait()
	sameStore(t, x.s, was)
}
