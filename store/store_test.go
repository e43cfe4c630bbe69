package store_test

import (
	"bytes"
	"encoding/binary"
	"fmt"
	"maps"
	"math"
	"slices"
	"strings"
	"sync"
	"testing"

	"spence/api"
	"spence/codec"
	"spence/crash"
	"spence/flash"
	"spence/index"
	"spence/replay"
	"spence/scan"
	"spence/seglog"
	"spence/store"
)

// How many objects there are, and the kinds of records, told by hand.
const (
	objects   = 16
	kindBind  = 2
	kindPiece = 3
	kindDrop  = 4
	kindPurge = 5
)

// mostGen is the greatest generation, mostIndex the greatest number of a slice, mostTick the greatest tick.
const (
	mostGen   = 2147483647
	mostIndex = 4096
	mostTick  = 4611686018427387903
)

// shape is a device's: segments, pages of each, bytes of each page.
func shape(segments, pages, bytes int) api.Shape {
	return api.Shape{Segments: segments, Pages: pages, Bytes: bytes}
}

// Small shapes, in whose pages each record has room that has a Tag of a byte, or a body of up to 9. Of tight a segment has room for one, of small for three.
var (
	tight = shape(4, 2, 32)
	small = shape(4, 4, 32)
)

// shapes are such that may be a store's, the least and the greatest ones among them; in the first ones no record has room.
func shapes() []api.Shape {
	return []api.Shape{
		shape(4, 1, 16), shape(16, 1, 256), shape(4, 2, 16), shape(4, 2, 31), tight, shape(4, 3, 16), shape(4, 3, 32), small, shape(5, 7, 16), shape(16, 2, 32),
		shape(7, 5, 20), shape(4, 8, 64), shape(16, 2, 256), shape(4, 64, 16), shape(16, 64, 256),
	}
}

// at is a record's place.
func at(seg, page int) api.Addr { return api.Addr{Segment: seg, Page: page} }

// plan is how a device crashes.
func plan(keep uint64, torn, cut int) api.Plan { return api.Plan{Keep: keep, Torn: torn, Cut: cut} }

// device is a fresh one.
func device(t *testing.T, s api.Shape) *flash.Device {
	t.Helper()
	d, e := flash.New(s)
	if e != api.OK {
		t.Fatalf("flash.New(%v): error %d", s, e)
	}
	return d
}

// nobodysDevices are such that there aren't.
func nobodysDevices() []*flash.Device {
	wrong, _ := flash.New(shape(17, 1, 16))
	return []*flash.Device{nil, {}, new(flash.Device), wrong, (*flash.Device)(nil).Copy()}
}

// A dice tells numbers without a short rule in them, the same ones each time.
type dice uint64

func (x *dice) next(below int) int {
	*x ^= *x << 13
	*x ^= *x >> 7
	*x ^= *x << 17
	return int(uint64(*x) >> 11 % uint64(below))
}

// plan is any crash of so many pages.
func (x *dice) plan(pages, bytes int) api.Plan {
	return plan(uint64(x.next(1<<32))<<32|uint64(x.next(1<<32)), x.next(pages+2)-1, x.next(bytes+2)-1)
}

// seeded is a dice of its own for each seed.
func seeded(seed int) *dice {
	x := dice(88172645463325252 + 7919*seed)
	for range 9 {
		x.next(2)
	}
	return &x
}

// text is so many bytes without a short rule in them; a seed makes others.
func text(length, seed int) string {
	b, x := make([]byte, length), seeded(seed)
	for i := range b {
		b[i] = byte(x.next(255))
	}
	return string(b)
}

// What records have, laid by the library.

func headData(object, gen int) []byte {
	return binary.BigEndian.AppendUint32([]byte{byte(object)}, uint32(gen))
}

func bindData(b api.Bind) []byte {
	out := binary.BigEndian.AppendUint16(headData(b.Object, b.Gen), uint16(b.Length))
	return append(binary.BigEndian.AppendUint64(out, uint64(b.Tick)), b.Tag...)
}

func pieceData(object, gen, i int, body string) []byte {
	return append(binary.BigEndian.AppendUint16(headData(object, gen), uint16(i)), body...)
}

// tagged is whether a text may be a validator's.
func tagged(tag string) bool {
	for _, c := range []byte(tag) {
		if c <= ' ' || c == '"' || c == 127 {
			return false
		}
	}
	return len(tag) <= 40
}

// The paper: what the document says, on a log of its own.

// slip is a slice: where its record is, and its body.
type slip struct {
	at   api.Addr
	body string
}

// sheet is what there is of one object; without a bind its Gen is 0. The map of its slices is never changed: another one takes its place.
type sheet struct {
	bind   api.Bind
	where  api.Addr
	slices map[int]slip
	floor  int
	tomb   api.Addr
	kind   byte
	most   int
}

// paper has, beside its log and what there is, what was there as it was synced last.
type paper struct {
	log     *seglog.Log
	sheets  [objects]sheet
	lasting [objects]sheet
}

// blank is the paper of a new Store.
func blank(t *testing.T, s api.Shape) *paper {
	t.Helper()
	l, e := seglog.New(device(t, s))
	if e != api.OK {
		t.Fatalf("seglog.New of %v: error %d", s, e)
	}
	return &paper{log: l}
}

func (p *paper) copied() *paper {
	c := *p
	c.log = p.log.Copy()
	return &c
}

// may is whether there is such an object.
func may(object int) bool { return object >= 0 && object < objects }

// of is an object's sheet: an empty one of an object that may not be.
func (p *paper) of(object int) sheet {
	if !may(object) {
		return sheet{}
	}
	return p.sheets[object]
}

// gen is an object's next generation.
func (p *paper) gen(object int) int {
	x := p.of(object)
	return 1 + max(x.floor, x.bind.Gen, x.most)
}

func (p *paper) bind(object int, tag string, length, tick int) (int, api.Errno) {
	gen := p.gen(object)
	if !may(object) || gen > mostGen || !tagged(tag) || length < 0 || length > 4096 || tick < 0 || tick > mostTick {
		return 0, api.ErrArg
	}
	x := &p.sheets[object]
	if x.bind.Gen > 0 {
		if e := p.drop(object); e != api.OK {
			return 0, e
		}
	}
	b := api.Bind{Object: object, Gen: gen, Tag: tag, Length: length, Tick: tick}
	where, e := p.log.Append(kindBind, bindData(b))
	if e != api.OK {
		return 0, e
	}
	x.bind, x.where, x.slices = b, where, nil
	return gen, api.OK
}

func (p *paper) touch(object, gen, tick int) api.Errno {
	b := p.of(object).bind
	if b.Gen == 0 || b.Gen != gen {
		return api.ErrNone
	}
	if tick < b.Tick || tick > mostTick {
		return api.ErrArg
	}
	b.Tick = tick
	where, e := p.log.Append(kindBind, bindData(b))
	if e == api.OK {
		p.sheets[object].bind, p.sheets[object].where = b, where
	}
	return e
}

func (p *paper) put(object, gen, i int, body string) api.Errno {
	x := p.of(object)
	if x.bind.Gen == 0 || x.bind.Gen != gen {
		return api.ErrNone
	}
	if i < 0 || i > mostIndex || len(body) < 1 || len(body) > 64 {
		return api.ErrArg
	}
	if _, is := x.slices[i]; is {
		return api.ErrUsed
	}
	where, e := p.log.Append(kindPiece, pieceData(object, gen, i, body))
	if e == api.OK {
		p.there(object, i, slip{where, body})
	}
	return e
}

// there is a slice from now on.
func (p *paper) there(object, i int, s slip) {
	more := map[int]slip{i: s}
	for k, old := range p.sheets[object].slices {
		if k != i {
			more[k] = old
		}
	}
	p.sheets[object].slices = more
}

func (p *paper) get(object, i int) (string, api.Errno) {
	s, is := p.of(object).slices[i]
	if !is {
		return "", api.ErrNone
	}
	return s.body, api.OK
}

func (p *paper) drop(object int) api.Errno {
	b := p.of(object).bind
	if b.Gen == 0 {
		return api.ErrNone
	}
	return p.forget(kindDrop, object, b.Gen)
}

func (p *paper) purge(object int) api.Errno {
	if !may(object) {
		return api.ErrArg
	}
	x := p.sheets[object]
	if x.floor == 0 && x.bind.Gen == 0 {
		return api.OK
	}
	return p.forget(kindPurge, object, max(x.floor, x.bind.Gen))
}

// forget raises an object's floor up to its bind's Gen, so without a bind nothing else is left of it.
func (p *paper) forget(kind byte, object, gen int) api.Errno {
	where, e := p.log.Move(kind, headData(object, gen))
	if e == api.OK {
		p.sheets[object] = sheet{floor: gen, tomb: where, kind: kind, most: p.sheets[object].most}
		p.sync()
	}
	return e
}

func (p *paper) sync() {
	p.log.Sync()
	p.lasting = p.sheets
}

// need is a record that there must be, and how it is noted that it is elsewhere.
type need struct {
	at     api.Addr
	kind   byte
	data   []byte
	placed func(api.Addr)
}

// needs are the records of a segment that there must be, by rising pages.
func (p *paper) needs(seg int) []need {
	var out []need
	for object := range p.sheets {
		x := &p.sheets[object]
		if x.floor > 0 {
			out = append(out, need{x.tomb, x.kind, headData(object, x.floor), func(a api.Addr) { x.tomb = a }})
		}
		if x.bind.Gen > 0 {
			out = append(out, need{x.where, kindBind, bindData(x.bind), func(a api.Addr) { x.where = a }})
		}
		for i, s := range x.slices {
			out = append(out, need{s.at, kindPiece, pieceData(object, x.bind.Gen, i, s.body), func(a api.Addr) { p.there(object, i, slip{a, s.body}) }})
		}
	}
	out = slices.DeleteFunc(out, func(n need) bool { return n.at.Segment != seg })
	slices.SortFunc(out, func(a, b need) int { return a.at.Page - b.at.Page })
	return out
}

func (p *paper) clean(seg int) api.Errno {
	if seg < 0 || seg >= p.log.Device().Shape().Segments || p.log.State(seg) != seglog.Sealed {
		return api.ErrArg
	}
	for _, n := range p.needs(seg) {
		where, e := p.log.Move(n.kind, n.data)
		if e != api.OK {
			return e
		}
		n.placed(where)
	}
	p.sync()
	return p.log.Erase(seg)
}

// live are the entries of a segment that there must be.
func (p *paper) live(t *testing.T, seg int) []api.Entry {
	t.Helper()
	var out []api.Entry
	for _, n := range p.needs(seg) {
		e, errno := p.log.Read(n.at)
		if errno != api.OK || e.Kind != n.kind || !bytes.Equal(e.Data, n.data) {
			t.Fatalf("on paper there is %v at %v, error %d; want kind %d, % x", e, n.at, errno, n.kind, n.data)
		}
		out = append(out, e)
	}
	return out
}

// said is what a record says, told without codec.
type said struct {
	kind byte
	bind api.Bind
	i    int
	body string
	at   api.Addr
}

// says reads a record; kind 0, if it isn't right.
func says(e api.Entry) said {
	b := e.Data
	if len(b) < 5 {
		return said{}
	}
	s := said{kind: e.Kind, at: e.At, bind: api.Bind{Object: int(b[0]), Gen: int(binary.BigEndian.Uint32(b[1:5]))}}
	right := s.bind.Object < objects && s.bind.Gen >= 1 && s.bind.Gen <= mostGen
	switch e.Kind {
	case kindBind:
		if len(b) < 15 {
			return said{}
		}
		tick := binary.BigEndian.Uint64(b[7:15])
		s.bind.Length, s.bind.Tick, s.bind.Tag = int(binary.BigEndian.Uint16(b[5:7])), int(tick), string(b[15:])
		right = right && s.bind.Length <= 4096 && tick <= mostTick && tagged(s.bind.Tag)
	case kindPiece:
		if len(b) < 8 || len(b) > 7+64 {
			return said{}
		}
		s.i, s.body = int(binary.BigEndian.Uint16(b[5:7])), string(b[7:])
		right = right && s.i <= mostIndex
	case kindDrop, kindPurge:
		right = right && len(b) == 5
	default:
		right = false
	}
	if !right {
		return said{}
	}
	return s
}

// read is an object's sheet behind records, told by looking back over all of them: the floor is the greatest generation that ever was dropped, the bind's Gen the greatest one above it.
func read(l []said, object int) sheet {
	var x sheet
	gen := 0
	mine := slices.DeleteFunc(slices.Clone(l), func(s said) bool { return s.kind == 0 || s.bind.Object != object })
	for _, s := range mine {
		x.most = max(x.most, s.bind.Gen)
		if s.kind == kindDrop || s.kind == kindPurge {
			x.floor = max(x.floor, s.bind.Gen)
		}
	}
	for _, s := range mine {
		switch {
		case s.kind == kindBind && s.bind.Gen > x.floor:
			gen = max(gen, s.bind.Gen)
		case (s.kind == kindDrop || s.kind == kindPurge) && s.bind.Gen == x.floor:
			x.tomb, x.kind = s.at, s.kind
		}
	}
	for _, s := range mine {
		known := s.bind
		known.Tick = x.bind.Tick
		switch {
		case gen == 0 || s.bind.Gen != gen:
		case s.kind == kindPiece:
			if x.slices == nil {
				x.slices = map[int]slip{}
			}
			x.slices[s.i] = slip{s.at, s.body}
		case s.kind == kindBind && (x.bind.Gen == 0 || known == x.bind && s.bind.Tick >= x.bind.Tick):
			x.bind, x.where = s.bind, s.at
		}
	}
	return x
}

// found is the paper of a device, by its bytes.
func found(t *testing.T, d *flash.Device) *paper {
	t.Helper()
	l, entries, e := scan.Recover(d.Copy())
	if e != api.OK {
		t.Fatalf("scan.Recover: error %d", e)
	}
	var row []said
	for _, x := range entries {
		row = append(row, says(x))
	}
	p := &paper{log: l}
	for object := range p.sheets {
		p.sheets[object] = read(row, object)
	}
	p.lasting = p.sheets
	return p
}

// What a Store tells, held against the paper.

// told is what an Index tells of an object.
type told struct {
	bind         api.Bind
	is, buried   bool
	where, tomb  api.Addr
	floor, last  int
	list         []int
	places       []api.Addr
	objectsThere bool
}

func (a told) like(b told) bool {
	return a.bind == b.bind && a.is == b.is && a.where == b.where && a.floor == b.floor && a.last == b.last && a.tomb == b.tomb && a.buried == b.buried && a.objectsThere == b.objectsThere && slices.Equal(a.list, b.list) && slices.Equal(a.places, b.places)
}

// look is what an Index tells of an object.
func look(x index.Index, object int) told {
	a := told{floor: x.Floor(object), last: x.Last(object), list: x.Slices(object).List(), places: x.Places(object)}
	a.bind, a.is = x.Get(object)
	a.where, _ = x.Where(object)
	a.tomb, a.buried = x.Tomb(object)
	a.objectsThere = slices.Contains(x.Objects(), object)
	return a
}

// tells is what an Index must tell of a sheet's object.
func (x sheet) tells() told {
	is := x.bind.Gen > 0
	a := told{bind: x.bind, is: is, where: x.where, floor: x.floor, last: max(x.floor, x.bind.Gen), tomb: x.tomb, buried: x.floor > 0, objectsThere: is}
	a.list = slices.Sorted(maps.Keys(x.slices))
	for _, i := range a.list {
		a.places = append(a.places, x.slices[i].at)
	}
	return a
}

// like is whether two records are alike; no Data, nil and empty, are the same.
func like(a, b api.Entry) bool {
	return a.At == b.At && a.Seq == b.Seq && a.Pages == b.Pages && a.Kind == b.Kind && string(a.Data) == string(b.Data)
}

// sameDevice holds that a device is as another one: the same bytes, and the same pages that aren't lasting, in their order.
func sameDevice(t *testing.T, d, want *flash.Device) {
	t.Helper()
	if !crash.Same(d, want) || d.Dirty() != want.Dirty() {
		t.Fatalf("the device has the pages %v, %d of them not lasting; want %v, %d, or others of its bytes", crash.Pages(d), d.Dirty(), crash.Pages(want), want.Dirty())
	}
	for i := range d.Dirty() {
		if p := plan(0, i, 256); !crash.Same(crash.After(d, p), crash.After(want, p)) {
			t.Fatalf("the page that was written at %d is another one", i)
		}
	}
}

// sameLog holds that a log is as another one.
func sameLog(t *testing.T, l, want *seglog.Log) {
	t.Helper()
	sameDevice(t, l.Device(), want.Device())
	seg, page := l.Open()
	if a, b := want.Open(); seg != a || page != b || l.Next() != want.Next() {
		t.Fatalf("the log is at page %d of segment %d, next %d; want %d, %d, %d", page, seg, l.Next(), b, a, want.Next())
	}
	for seg := range 17 {
		if l.State(seg) != want.State(seg) {
			t.Fatalf("segment %d: state %d; want %d", seg, l.State(seg), want.State(seg))
		}
	}
}

// alike holds that a Store is as on paper, in all that it tells.
func alike(t *testing.T, s *store.Store, p *paper) {
	t.Helper()
	sameLog(t, s.Log(), p.log)
	x := s.Index()
	for object, sheet := range p.sheets {
		if got, want := look(x, object), sheet.tells(); !got.like(want) {
			t.Fatalf("object %d: %+v; want %+v", object, got, want)
		}
		for i := range sheet.slices {
			gets(t, s, object, i, sheet.slices[i].body)
		}
	}
	for seg := -1; seg <= s.Log().Device().Shape().Segments; seg++ {
		if got, want := s.Live(seg), p.live(t, seg); !slices.EqualFunc(got, want, like) {
			t.Fatalf("Live(%d): %v; want %v", seg, got, want)
		}
	}
}

// gets holds that a slice has that body.
func gets(t *testing.T, s *store.Store, object, i int, want string) {
	t.Helper()
	if b, e := s.Get(object, i); string(b) != want || e != api.OK {
		t.Fatalf("Get(%d, %d): %q, %d; want %q", object, i, b, e, want)
	}
}

// getsNot holds that there is no such slice.
func getsNot(t *testing.T, s *store.Store, object, i int, want api.Errno) {
	t.Helper()
	if b, e := s.Get(object, i); len(b) > 0 || e != want {
		t.Fatalf("Get(%d, %d): %q, %d; want error %d", object, i, b, e, want)
	}
}

// Deeds, done to a Store and on paper.

type deed struct {
	name  string
	store func(s *store.Store) (int, api.Errno)
	paper func(p *paper) (int, api.Errno)
}

// plain is a deed that answers nothing but an error's number.
func plain(name string, s func(s *store.Store) api.Errno, p func(p *paper) api.Errno) deed {
	return deed{name, func(x *store.Store) (int, api.Errno) { return 0, s(x) }, func(x *paper) (int, api.Errno) { return 0, p(x) }}
}

func binds(object int, tag string, length, tick int) deed {
	return deed{
		fmt.Sprintf("Bind(%d, %q, %d, %d)", object, tag, length, tick),
		func(s *store.Store) (int, api.Errno) { return s.Bind(object, tag, length, tick) },
		func(p *paper) (int, api.Errno) { return p.bind(object, tag, length, tick) },
	}
}

func touches(object, gen, tick int) deed {
	return plain(fmt.Sprintf("Touch(%d, %d, %d)", object, gen, tick),
		func(s *store.Store) api.Errno { return s.Touch(object, gen, tick) },
		func(p *paper) api.Errno { return p.touch(object, gen, tick) })
}

func puts(object, gen, i int, body string) deed {
	return plain(fmt.Sprintf("Put(%d, %d, %d, %q)", object, gen, i, body),
		func(s *store.Store) api.Errno { return s.Put(object, gen, i, []byte(body)) },
		func(p *paper) api.Errno { return p.put(object, gen, i, body) })
}

func drops(object int) deed {
	return plain(fmt.Sprintf("Drop(%d)", object),
		func(s *store.Store) api.Errno { return s.Drop(object) },
		func(p *paper) api.Errno { return p.drop(object) })
}

func purges(object int) deed {
	return plain(fmt.Sprintf("Purge(%d)", object),
		func(s *store.Store) api.Errno { return s.Purge(object) },
		func(p *paper) api.Errno { return p.purge(object) })
}

func cleans(seg int) deed {
	return plain(fmt.Sprintf("Clean(%d)", seg),
		func(s *store.Store) api.Errno { return s.Clean(seg) },
		func(p *paper) api.Errno { return p.clean(seg) })
}

func syncs() deed {
	return plain("Sync()",
		func(s *store.Store) api.Errno { s.Sync(); return api.OK },
		func(p *paper) api.Errno { p.sync(); return api.OK })
}

// seals is one past the Store.
func seals() deed {
	return plain("Log().Seal()",
		func(s *store.Store) api.Errno { s.Log().Seal(); return api.OK },
		func(p *paper) api.Errno { p.log.Seal(); return api.OK })
}

// pair is a Store, and its paper.
type pair struct {
	t    *testing.T
	s    *store.Store
	p    *paper
	done []string
}

// begun is a new Store with its paper.
func begun(t *testing.T, shape api.Shape) *pair {
	t.Helper()
	s, e := store.New(device(t, shape))
	if s == nil || e != api.OK {
		t.Fatalf("New: %v, %d", s, e)
	}
	return &pair{t: t, s: s, p: blank(t, shape)}
}

// copied is a pair of its own.
func (x *pair) copied() *pair {
	return &pair{x.t, x.s.Copy(), x.p.copied(), slices.Clone(x.done)}
}

// answers does a deed, and holds what it answers.
func (x *pair) answers(d deed) (int, api.Errno) {
	x.t.Helper()
	x.done = append(x.done, d.name)
	n, e := d.store(x.s)
	want, errno := d.paper(x.p)
	if n != want || e != errno {
		x.t.Fatalf("%s: %d, %d; want %d, %d", strings.Join(x.done, "; "), n, e, want, errno)
	}
	return n, e
}

// holds is that all is as on paper.
func (x *pair) holds() {
	x.t.Helper()
	defer x.tell()
	alike(x.t, x.s, x.p)
}

// tell says what was done, if something was wrong.
func (x *pair) tell() {
	if x.t.Failed() {
		x.t.Log(strings.Join(x.done, "; "))
	}
}

// does holds that deeds are done, and all is as on paper.
func (x *pair) does(l ...deed) {
	x.t.Helper()
	for _, d := range l {
		if _, e := x.answers(d); e != api.OK {
			x.t.Fatalf("%s: error %d", strings.Join(x.done, "; "), e)
		}
	}
	x.holds()
}

// begins holds that a Bind is of that generation.
func (x *pair) begins(gen int, d deed) {
	x.t.Helper()
	if n, e := x.answers(d); n != gen || e != api.OK {
		x.t.Fatalf("%s: %d, %d; want %d", strings.Join(x.done, "; "), n, e, gen)
	}
	x.holds()
}

// refuses holds that a deed comes to that error, and nothing has changed.
func (x *pair) refuses(want api.Errno, l ...deed) {
	x.t.Helper()
	for _, d := range l {
		was, log := x.s.Index(), x.s.Log().Copy()
		if n, e := x.answers(d); n != 0 || e != want {
			x.t.Fatalf("%s: %d, %d; want error %d", strings.Join(x.done, "; "), n, e, want)
		}
		if !index.Same(was, x.s.Index()) {
			x.t.Fatalf("%s: the index has changed", strings.Join(x.done, "; "))
		}
		sameLog(x.t, x.s.Log(), log)
	}
	x.holds()
}

// opened is the Store that is Opened on a device, held against the device's bytes.
func opened(t *testing.T, d *flash.Device) *pair {
	t.Helper()
	p := found(t, d)
	s, e := store.Open(d)
	if s == nil || e != api.OK {
		t.Fatalf("Open: %v, %d", s, e)
	}
	x := &pair{t: t, s: s, p: p}
	x.holds()
	if s.Log().Device() != d {
		t.Fatal("Open: the log's device is another one")
	}
	return x
}

// again is the pair that is Opened behind a crash, with all that P21.6 says of it.
func (x *pair) again(c api.Plan) *pair {
	x.t.Helper()
	defer x.tell()
	y := opened(x.t, crash.After(x.s.Log().Device(), c))
	y.done = append(slices.Clone(x.done), fmt.Sprintf("crash %+v", c))
	if !replay.Within(y.s.Index(), x.s.Index()) {
		x.t.Fatalf("crash %+v: more than there was", c)
	}
	for object := range objects {
		x.survives(y, c, object)
	}
	return y
}

// survives holds what P21.6 says of one object behind a crash.
func (x *pair) survives(y *pair, c api.Plan, object int) {
	x.t.Helper()
	was, lasting := x.p.sheets[object], x.p.lasting[object]
	b, is := y.s.Index().Get(object)
	known := b
	known.Tick = was.bind.Tick
	if y.s.Index().Floor(object) != was.floor || is && (known != was.bind || b.Tick > was.bind.Tick) {
		x.t.Fatalf("crash %+v: object %d has %+v, floor %d; it had %+v, %d", c, object, b, y.s.Index().Floor(object), was.bind, was.floor)
	}
	for i := range y.s.Index().Slices(object).All() {
		gets(x.t, y.s, object, i, was.slices[i].body)
	}
	if lasting.bind.Gen == 0 || lasting.bind.Gen != was.bind.Gen {
		return
	}
	if !is || b.Tick < lasting.bind.Tick {
		x.t.Fatalf("crash %+v: object %d has %+v; %+v was synced", c, object, b, lasting.bind)
	}
	for i, s := range lasting.slices {
		gets(x.t, y.s, object, i, s.body)
	}
}

// record is one that is laid past a Store.
type record struct {
	kind byte
	data []byte
}

// laidOut is a device on which a log has these records.
func laidOut(t *testing.T, s api.Shape, l ...record) *flash.Device {
	t.Helper()
	d := device(t, s)
	log, _ := seglog.New(d)
	for _, r := range l {
		if _, e := log.Append(r.kind, r.data); e != api.OK {
			t.Fatalf("seglog's Append of %v: error %d", r, e)
		}
	}
	return d
}

func aBind(object, gen int, tag string, length, tick int) record {
	return record{kindBind, bindData(api.Bind{Object: object, Gen: gen, Tag: tag, Length: length, Tick: tick})}
}

func aPiece(object, gen, i int, body string) record {
	return record{kindPiece, pieceData(object, gen, i, body)}
}

func aDrop(object, gen int) record { return record{kindDrop, headData(object, gen)} }

func aPurge(object, gen int) record { return record{kindPurge, headData(object, gen)} }

// TestRecordsByHand: what the tests lay by hand is what codec lays.
func TestRecordsByHand(t *testing.T) {
	bind := api.Bind{Object: 3, Gen: 5, Tag: "v1-0", Length: 300, Tick: 1 << 40}
	b, _ := codec.PutBind(bind)
	p, _ := codec.PutPiece(api.Piece{Object: 3, Gen: 5, Index: 258, Body: []byte{4, 9}})
	d, _ := codec.PutDrop(api.Drop{Object: 3, Gen: 1 << 20})
	if !bytes.Equal(b, bindData(bind)) || !bytes.Equal(p, pieceData(3, 5, 258, "\x04\x09")) || !bytes.Equal(d, headData(3, 1<<20)) {
		t.Fatal(b, p, d)
	}
	if kindBind != api.KindBind || kindPiece != api.KindPiece || kindDrop != api.KindDrop || kindPurge != api.KindPurge || objects != api.MaxObject {
		t.Fatal("kinds")
	}
}

// P21.1.

// TestExample is the chapter's.
func TestExample(t *testing.T) {
	x := begun(t, small)
	x.begins(1, binds(1, "v", 20, 5))
	x.does(puts(1, 1, 0, "abc"))
	gets(t, x.s, 1, 0, "abc")
}

// TestNoDevice: none, and such that nobody made.
func TestNoDevice(t *testing.T) {
	for _, d := range nobodysDevices() {
		for range 2 {
			if s, e := store.New(d); s != nil || e != api.ErrNil {
				t.Fatalf("New: %v, %d", s, e)
			}
			if s, e := store.Open(d); s != nil || e != api.ErrNil {
				t.Fatalf("Open: %v, %d", s, e)
			}
		}
	}
}

// scribbled are devices of a shape on which something else lies than a store.
func scribbled(t *testing.T, s api.Shape) []*flash.Device {
	t.Helper()
	var out []*flash.Device
	for _, seed := range []int{1, 2, 3} {
		d, x := device(t, s), seeded(seed)
		for range 1 + x.next(s.Segments*s.Pages) {
			d.Write(x.next(s.Segments), x.next(s.Pages), []byte(text(x.next(s.Bytes+1), seed)))
			if x.next(3) == 0 {
				d.Sync()
			}
		}
		out = append(out, d)
	}
	full := device(t, s)
	for seg := range s.Segments {
		for page := range s.Pages {
			full.Write(seg, page, bytes.Repeat([]byte{0xFF}, s.Bytes))
		}
	}
	full.Sync()
	return append(out, full)
}

// TestTooFew: fewer than four segments; nothing is erased.
func TestTooFew(t *testing.T) {
	for segments := 1; segments < 4; segments++ {
		s := shape(segments, 4, 32)
		for _, d := range append(scribbled(t, s), device(t, s)) {
			was := d.Copy()
			if s, e := store.New(d); s != nil || e != api.ErrArg {
				t.Fatalf("New of %d segments: %v, %d", segments, s, e)
			}
			if s, e := store.Open(d); s != nil || e != api.ErrArg {
				t.Fatalf("Open of %d segments: %v, %d", segments, s, e)
			}
			sameDevice(t, d, was)
		}
	}
}

// empty holds that a Store has nothing, and goes on as a new one.
func empty(t *testing.T, s *store.Store, d *flash.Device) {
	t.Helper()
	if s.Log().Device() != d || s.Log() != s.Log() {
		t.Fatal("the log's device is another one")
	}
	if !index.Same(s.Index(), index.New()) || s.Log().Next() != 1 || s.Log().Count(seglog.Free) != d.Shape().Segments || len(crash.Pages(d)) > 0 || d.Dirty() > 0 {
		t.Fatal("a new Store has something")
	}
	x := &pair{t: t, s: s, p: blank(t, d.Shape())}
	x.holds()
	goes(x)
}

// goes holds that deeds of each kind go on, as far as there is room.
func goes(x *pair) {
	x.t.Helper()
	for _, object := range []int{3, 0, 15, 3} {
		gen, _ := x.answers(binds(object, "a", 20, 5))
		x.answers(puts(object, gen, 0, "abc"))
		x.answers(puts(object, gen, 1, "x"))
		x.answers(touches(object, gen, 6))
		x.holds()
	}
	for seg := range x.s.Log().Device().Shape().Segments {
		x.answers(cleans(seg))
		x.answers(purges(seg % 4))
	}
	x.answers(syncs())
	x.holds()
}

// TestNew: of each shape, on fresh devices, on such on which something else lies, and where a store lies.
func TestNew(t *testing.T) {
	for _, shape := range shapes() {
		old := begun(t, shape)
		goes(old)
		for _, d := range append(scribbled(t, shape), device(t, shape), old.s.Log().Device()) {
			s, e := store.New(d)
			if e != api.OK {
				t.Fatalf("New of %v: error %d", shape, e)
			}
			empty(t, s, d)
		}
	}
}

// TestOpenOfNothing: a fresh device is as for New; of one on which something else lies just what is no log's is erased.
func TestOpenOfNothing(t *testing.T) {
	for _, shape := range shapes() {
		for _, d := range append(scribbled(t, shape), device(t, shape)) {
			s, e := store.Open(d)
			if e != api.OK {
				t.Fatalf("Open of %v: error %d", shape, e)
			}
			empty(t, s, d)
		}
	}
}

// TestOpenWrongRecords: such that say nothing stand in a log, and play no part, also not for the next generation.
func TestOpenWrongRecords(t *testing.T) {
	wrong := []record{
		{0, headData(1, 9)}, {6, headData(1, 9)}, {255, nil}, {kindBind, nil}, {kindBind, bindData(api.Bind{Object: 1, Gen: 9})[:14]}, {kindPiece, nil},
		aBind(16, 9, "a", 20, 5), aBind(1, 0, "a", 20, 5), aBind(1, mostGen+1, "a", 20, 5), aBind(1, 9, "a", 4097, 5), aBind(1, 9, "a", 20, mostTick+1), aBind(1, 9, "a\"", 20, 5), aBind(1, 9, strings.Repeat("a", 41), 20, 5),
		aPiece(1, 9, 0, ""), aPiece(1, 9, 4097, "x"), aPiece(1, 0, 0, "x"), aPiece(16, 9, 0, "x"), aPiece(1, 9, 0, strings.Repeat("a", 65)),
		aDrop(1, 0), aDrop(16, 9), aDrop(1, mostGen+1), aPurge(1, 0), {kindDrop, headData(1, 9)[:4]}, {kindPurge, append(headData(1, 9), 0)},
	}
	for n, r := range wrong {
		x := opened(t, laidOut(t, shape(4, 8, 64), aBind(1, 3, "a", 20, 5), r, aPiece(1, 3, 0, "abc"), r))
		if b, _ := x.s.Index().Get(1); b.Gen != 3 || x.s.Index().Floor(1) != 0 || x.s.Index().Slices(1).Len() != 1 {
			t.Fatalf("behind wrong record %d: %+v", n, b)
		}
		x.begins(4, binds(1, "b", 20, 5))
		x.does(cleans(0))
	}
}

// TestOpenByHand: what lies there by hand, in the order in which it was put.
func TestOpenByHand(t *testing.T) {
	type want struct {
		gen, tick, floor, next int
		list                   []int
	}
	rows := []struct {
		name string
		row  []record
		want want
	}{
		{"nothing", nil, want{next: 1}},
		{"a bind", []record{aBind(1, 3, "a", 20, 5)}, want{gen: 3, tick: 5, next: 4}},
		{"a bind that was touched", []record{aBind(1, 3, "a", 20, 5), aBind(1, 3, "a", 20, 8)}, want{gen: 3, tick: 8, next: 4}},
		{"slices", []record{aBind(1, 3, "a", 20, 5), aPiece(1, 3, 4, "x"), aPiece(1, 3, 0, "y")}, want{gen: 3, tick: 5, next: 4, list: []int{0, 4}}},
		{"a slice ahead of its bind", []record{aPiece(1, 3, 4, "x"), aBind(1, 3, "a", 20, 5)}, want{gen: 3, tick: 5, next: 4, list: []int{4}}},
		{"a drop", []record{aBind(1, 3, "a", 20, 5), aPiece(1, 3, 4, "x"), aDrop(1, 3)}, want{floor: 3, next: 4}},
		{"a purge", []record{aBind(1, 3, "a", 20, 5), aPiece(1, 3, 4, "x"), aPurge(1, 3)}, want{floor: 3, next: 4}},
		{"a drop that was moved ahead", []record{aDrop(1, 3), aBind(1, 3, "a", 20, 5), aPiece(1, 3, 4, "x")}, want{floor: 3, next: 4}},
		{"a drop and a bind", []record{aBind(1, 3, "a", 20, 5), aPiece(1, 3, 4, "x"), aDrop(1, 3), aBind(1, 4, "b", 20, 5), aPiece(1, 4, 1, "y")}, want{gen: 4, tick: 5, floor: 3, next: 5, list: []int{1}}},
		{"a drop that was lost", []record{aBind(1, 3, "a", 20, 5), aPiece(1, 3, 4, "x"), aBind(1, 4, "b", 20, 5), aPiece(1, 4, 1, "y")}, want{gen: 4, tick: 5, next: 5, list: []int{1}}},
		{"a bind that was lost", []record{aDrop(1, 3), aPiece(1, 4, 1, "y")}, want{floor: 3, next: 5}},
		{"a bind and a drop that were lost", []record{aBind(1, 3, "a", 20, 5), aPiece(1, 3, 4, "x"), aPiece(1, 7, 1, "y")}, want{gen: 3, tick: 5, next: 8, list: []int{4}}},
		{"slices alone", []record{aPiece(1, 6, 4, "x"), aPiece(1, 2, 1, "y")}, want{next: 7}},
		{"another object's", []record{aPiece(2, 6, 4, "x"), aBind(0, 5, "a", 20, 5), aDrop(3, 9)}, want{next: 1}},
		{"a bind below the floor", []record{aPurge(1, 9), aBind(1, 8, "a", 20, 5)}, want{floor: 9, next: 10}},
	}
	for _, r := range rows {
		d := laidOut(t, shape(4, 9, 32), r.row...)
		for range 2 {
			x := opened(t, d.Copy())
			b, is := x.s.Index().Get(1)
			if b.Gen != r.want.gen || is != (b.Gen > 0) || b.Tick != r.want.tick || x.s.Index().Floor(1) != r.want.floor || !slices.Equal(x.s.Index().Slices(1).List(), r.want.list) {
				t.Fatalf("%s: %+v, %v, %d; want %+v", r.name, b, x.s.Index().Slices(1).List(), x.s.Index().Floor(1), r.want)
			}
			x.begins(r.want.next, binds(1, "c", 20, 5))
			if x.s.Index().Slices(1).Len() > 0 {
				t.Fatalf("%s: a new generation has slices", r.name)
			}
			// Behind another Open nothing of old comes to count either.
			y := opened(t, x.s.Log().Device().Copy())
			if b, _ := y.s.Index().Get(1); b.Gen != r.want.next || y.s.Index().Slices(1).Len() > 0 {
				t.Fatalf("%s: Opened anew it has %+v", r.name, b)
			}
		}
	}
}

// TestOpenBehindEach deed: all that was done is found again, as nothing was lost.
func TestOpenBehindEach(t *testing.T) {
	x := begun(t, shape(6, 4, 32))
	row := []deed{
		binds(1, "a", 20, 5), puts(1, 1, 0, "abc"), puts(1, 1, 4096, "123456789"), touches(1, 1, 5), touches(1, 1, 7), syncs(), binds(0, "", 0, 0), binds(15, "z", 4096, mostTick),
		puts(15, 1, 3, "x"), binds(1, "b", 21, 7), puts(1, 2, 0, "new"), drops(1), purges(1), purges(0), seals(), cleans(0), cleans(1), syncs(), binds(1, "c", 1, 9), puts(1, 3, 2, "last"), drops(15), purges(15),
	}
	for _, d := range row {
		x.does(d)
		y := opened(t, x.s.Log().Device().Copy())
		if !index.Same(x.s.Index(), y.s.Index()) {
			t.Fatalf("behind %s another index is found", strings.Join(x.done, "; "))
		}
		goes(y)
	}
}

// TestOpenTwice: a Store that is Opened again and again, without anything between.
func TestOpenTwice(t *testing.T) {
	x := begun(t, small)
	x.does(binds(1, "a", 20, 5), puts(1, 1, 0, "abc"), binds(1, "b", 20, 5), puts(1, 2, 1, "de"), purges(2))
	d := x.s.Log().Device().Copy()
	for range 3 {
		y := opened(t, d)
		if !index.Same(x.s.Index(), y.s.Index()) || y.s.Log().Count(seglog.Opened) != 0 || y.s.Log().Next() != x.s.Log().Next() {
			t.Fatal("Opened anew it is another one")
		}
		sameDevice(t, d, x.s.Log().Device())
	}
}

// TestIndexAndLog: the log is handed out itself, the index as it is now.
func TestIndexAndLog(t *testing.T) {
	x := begun(t, small)
	l := x.s.Log()
	x.does(binds(1, "a", 20, 5), puts(1, 1, 0, "abc"))
	if x.s.Log() != l || l.Count(seglog.Opened) != 1 || !index.Same(x.s.Index(), x.s.Index()) {
		t.Fatal("Log, Index")
	}
	if where, is := x.s.Index().Where(1); where != at(0, 1) || !is {
		t.Fatal(where)
	}
	if where, is := x.s.Index().At(1, 0); where != at(0, 2) || !is {
		t.Fatal(where)
	}
}

// P21.2.

// TestBindEach object: for the first time, anew, behind a drop, behind a purge.
func TestBindEach(t *testing.T) {
	for object := range objects {
		x := begun(t, shape(4, 16, 32))
		x.begins(1, binds(object, "a", 20, 5))
		x.does(puts(object, 1, 7, "x"))
		x.begins(2, binds(object, "b", 21, 4))
		if x.s.Index().Floor(object) != 1 || x.s.Index().Slices(object).Len() != 0 {
			t.Fatal("behind a new bind the old one is left")
		}
		x.does(drops(object))
		x.begins(3, binds(object, "a", 20, 5))
		x.does(purges(object))
		x.begins(4, binds(object, "a", 20, 5))
		x.does(drops(object), purges(object))
		x.begins(5, binds(object, "", 0, 0))
		x.begins(6, binds(object, "", 0, 0))
		if got := x.s.Index().Objects(); !slices.Equal(got, []int{object}) {
			t.Fatalf("there are binds of %v", got)
		}
	}
}

// TestBindSyncs: where there was a bind, all is lasting but the new one; else nothing is synced.
func TestBindSyncs(t *testing.T) {
	x := begun(t, small)
	x.does(binds(1, "a", 20, 5), puts(1, 1, 0, "x"))
	if n := x.s.Log().Device().Dirty(); n != 3 {
		t.Fatalf("%d pages aren't lasting; want those of a head, a bind, a slice", n)
	}
	x.does(binds(1, "b", 20, 5))
	if n := x.s.Log().Device().Dirty(); n != 2 {
		t.Fatalf("%d pages aren't lasting; want those of a head and a bind", n)
	}
	x.does(binds(2, "b", 20, 5))
	if n := x.s.Log().Device().Dirty(); n != 3 {
		t.Fatalf("%d pages aren't lasting; want one more", n)
	}
}

// edges are numbers such as may be objects, segments, slices, generations, or not.
func edges() []int {
	return []int{-1, -2, 16, 17, 31, 32, 255, 256, 257, 4097, 65536, 65537, 1 << 31, 1 << 32, 1<<32 + 1, -1 << 32, math.MaxInt, math.MinInt, math.MinInt + 1}
}

// TestBindArguments: each that may be, at its bounds, and each that may not be: then a bind that is there stays.
func TestBindArguments(t *testing.T) {
	roomy := shape(4, 8, 64)
	long := strings.Repeat("x", 40)
	right := []deed{
		binds(0, "", 0, 0), binds(15, long, 4096, mostTick), binds(1, "\xff\x80!#~", 1, 1), binds(2, "v1-0", 4095, mostTick-1), binds(1, "W/", 256, 1<<32),
	}
	for _, d := range right {
		x := begun(t, roomy)
		x.begins(1, d)
		x.begins(2, d)
	}
	var wrong []deed
	for _, n := range edges() {
		wrong = append(wrong, binds(n, "a", 20, 5))
		if n < 0 || n > 4096 {
			wrong = append(wrong, binds(1, "a", n, 5))
		}
		if n < 0 || n > mostTick {
			wrong = append(wrong, binds(1, "a", 20, n))
		}
	}
	for _, tag := range []string{long + "x", strings.Repeat("x", 4096), " ", "a b", "\"", "a\"", "\x00", "\x7f", "a\n", "\t"} {
		wrong = append(wrong, binds(1, tag, 20, 5))
	}
	wrong = append(wrong, binds(1, "a", 20, mostTick+1), binds(1, "a", 4097, 5))
	fresh, there := begun(t, roomy), begun(t, roomy)
	there.does(binds(1, "a", 20, 5), puts(1, 1, 0, "abc"))
	fresh.refuses(api.ErrArg, wrong...)
	there.refuses(api.ErrArg, wrong...)
	fresh.begins(1, binds(1, "a", 20, 5))
	there.begins(2, binds(1, "a", 20, 5))
}

// TestBindEachByte of a Tag.
func TestBindEachByte(t *testing.T) {
	x := begun(t, shape(16, 64, 64))
	gen := 0
	for c := range 256 {
		tag := string([]byte{'a', byte(c)})
		if !tagged(tag) {
			x.refuses(api.ErrArg, binds(4, tag, 20, 5))
			continue
		}
		gen++
		x.begins(gen, binds(4, tag, 20, 5))
	}
}

// TestBindGenerations: above the last one, and above each that a record of the object had when the Store was Opened.
func TestBindGenerations(t *testing.T) {
	left := []struct {
		name string
		row  []record
		want int
	}{
		{"slices", []record{aPiece(1, 2, 0, "x"), aPiece(1, 6, 0, "y"), aPiece(1, 4, 0, "z")}, 7},
		{"slices above a bind", []record{aBind(1, 3, "a", 20, 5), aPiece(1, 9, 0, "y")}, 10},
		{"slices below a bind", []record{aBind(1, 9, "a", 20, 5), aPiece(1, 3, 0, "y")}, 10},
		{"slices above a floor", []record{aDrop(1, 3), aPiece(1, 9, 0, "y")}, 10},
		{"slices below a floor", []record{aPurge(1, 9), aPiece(1, 3, 0, "y")}, 10},
		{"other objects' slices", []record{aPiece(0, 9, 0, "x"), aPiece(2, 9, 0, "x"), aPiece(15, 9, 0, "x")}, 1},
		{"the greatest one but one", []record{aPiece(1, mostGen-1, 0, "x")}, mostGen},
	}
	for _, r := range left {
		d := laidOut(t, small, r.row...)
		x := opened(t, d)
		// It is the Store that knows, not what is left on the device.
		x.s.Log().Seal()
		x.p.log.Seal()
		for seg := range 4 {
			if x.s.Log().State(seg) == seglog.Sealed && len(x.s.Live(seg)) == 0 {
				x.does(cleans(seg))
			}
		}
		twin := x.copied()
		twin.begins(r.want, binds(1, "b", 20, 5))
		x.begins(r.want, binds(1, "b", 20, 5))
		if r.want < mostGen {
			x.begins(r.want+1, binds(1, "b", 20, 5))
		}
	}
}

// TestBindForgetsWhatIsGone: what was cleaned away when a Store is Opened plays no part any more.
func TestBindForgetsWhatIsGone(t *testing.T) {
	x := opened(t, laidOut(t, small, aDrop(1, 2), aPiece(1, 9, 0, "x")))
	x.does(cleans(0))
	y := opened(t, x.s.Log().Device().Copy())
	y.begins(3, binds(1, "a", 20, 5))
	x.begins(10, binds(1, "a", 20, 5))
}

// TestBindBehindTheGreatest: there is no generation above it; what is there stays.
func TestBindBehindTheGreatest(t *testing.T) {
	for _, row := range [][]record{
		{aBind(1, mostGen, "a", 20, 5), aPiece(1, mostGen, 0, "x")},
		{aBind(1, 4, "a", 20, 5), aPiece(1, mostGen, 0, "x")},
		{aPiece(1, mostGen, 0, "x")},
		{aDrop(1, mostGen)},
		{aPurge(1, mostGen)},
	} {
		x := opened(t, laidOut(t, small, row...))
		x.refuses(api.ErrArg, binds(1, "b", 20, 5))
		x.begins(1, binds(2, "b", 20, 5))
	}
	x := opened(t, laidOut(t, small, aBind(1, mostGen-1, "a", 20, 5)))
	x.begins(mostGen, binds(1, "b", 20, 5))
	x.does(puts(1, mostGen, 0, "x"), touches(1, mostGen, 6))
	x.refuses(api.ErrArg, binds(1, "b", 20, 5))
	x.does(drops(1))
	x.refuses(api.ErrArg, binds(1, "b", 20, 5))
	x.does(purges(1))
	x.refuses(api.ErrArg, binds(1, "b", 20, 5))
}

// full is a tight store in which each segment has one record: binds of objects 0, 1 and 2, and behind them a drop, with no room for anything.
func full(t *testing.T) *pair {
	t.Helper()
	x := begun(t, tight)
	x.does(binds(0, "a", 20, 5), binds(1, "b", 20, 5), binds(2, "c", 20, 5), drops(2))
	if x.s.Log().Count(seglog.Free) != 0 {
		t.Fatal("there is room")
	}
	return x
}

// TestBindNoRoom: none for the drop; for the drop and none for the bind; for a bind without a drop.
func TestBindNoRoom(t *testing.T) {
	x := full(t)
	x.refuses(api.ErrFull, binds(0, "z", 20, 5), binds(3, "z", 20, 5), binds(2, "z", 20, 5))
	// One segment is Free, so a drop has room, and the bind behind it hasn't: the drop was done.
	y := begun(t, tight)
	y.does(binds(0, "a", 20, 5), puts(0, 1, 0, "x"))
	y.does(binds(1, "a", 20, 5))
	y.refuses(api.ErrFull, binds(3, "a", 20, 5))
	if n, e := y.answers(binds(0, "b", 20, 5)); n != 0 || e != api.ErrFull {
		t.Fatalf("Bind: %d, %d", n, e)
	}
	y.holds()
	if _, is := y.s.Index().Get(0); is || y.s.Index().Floor(0) != 1 || y.s.Log().Device().Dirty() != 0 {
		t.Fatal("the old bind is left")
	}
	y.does(cleans(0), cleans(1))
	y.begins(2, binds(0, "b", 20, 5))
}

// TestBindTooLong: its record has room in no segment; a bind that was there is dropped.
func TestBindTooLong(t *testing.T) {
	x := begun(t, tight)
	x.refuses(api.ErrLong, binds(0, "ab", 20, 5))
	x.begins(1, binds(0, "a", 20, 5))
	if n, e := x.answers(binds(0, "ab", 20, 5)); n != 0 || e != api.ErrLong {
		t.Fatalf("Bind: %d, %d", n, e)
	}
	x.holds()
	if x.s.Index().Floor(0) != 1 {
		t.Fatal("nothing was dropped ahead")
	}
	x.begins(2, binds(0, "a", 20, 5))
	for _, s := range []api.Shape{shape(4, 1, 16), shape(4, 1, 256), shape(4, 2, 16), shape(4, 2, 30)} {
		begun(t, s).refuses(api.ErrLong, binds(0, "", 0, 0))
	}
	// A drop that has no room comes ahead of a bind that has none anywhere.
	full(t).refuses(api.ErrFull, binds(0, "ab", 20, 5))
}

// TestTouch: at ticks that are less, the same, greater, that may not be; at other generations, and without a bind.
func TestTouch(t *testing.T) {
	x := begun(t, shape(4, 16, 32))
	x.refuses(api.ErrNone, touches(1, 0, 5), touches(1, 1, 5), touches(1, 1, -1))
	x.does(binds(1, "a", 20, 5), puts(1, 1, 3, "abc"), binds(2, "b", 21, 0))
	for _, n := range edges() {
		x.refuses(api.ErrNone, touches(n, 1, 9), touches(n, 0, 9), touches(n, n, 9), touches(1, n, 9), touches(1, n, n))
		if n < 5 || n > mostTick {
			x.refuses(api.ErrArg, touches(1, 1, n))
		}
	}
	x.refuses(api.ErrNone, touches(1, 0, 9), touches(1, 2, 9), touches(3, 0, 9), touches(3, 1, 9))
	x.refuses(api.ErrArg, touches(1, 1, 4), touches(1, 1, 0), touches(1, 1, mostTick+1), touches(2, 1, -1))
	for _, tick := range []int{5, 5, 6, 1 << 40, mostTick, mostTick} {
		was, _ := x.s.Index().Where(1)
		x.does(touches(1, 1, tick))
		b, _ := x.s.Index().Get(1)
		if now, _ := x.s.Index().Where(1); b != (api.Bind{Object: 1, Gen: 1, Tag: "a", Length: 20, Tick: tick}) || now == was || x.s.Index().Slices(1).Len() != 1 {
			t.Fatalf("Touch at %d: %+v at %v", tick, b, now)
		}
	}
	x.refuses(api.ErrArg, touches(1, 1, mostTick-1))
	if x.s.Log().Device().Dirty() == 0 {
		t.Fatal("Touch synced")
	}
	x.does(touches(2, 1, 0), drops(1))
	x.refuses(api.ErrNone, touches(1, 1, mostTick))
	x.begins(2, binds(1, "a", 20, 5))
	x.refuses(api.ErrNone, touches(1, 1, 9))
	x.does(touches(1, 2, 9))
}

// TestTouchNoRoom: the bind stays as it was; the error is named behind those of the arguments.
func TestTouchNoRoom(t *testing.T) {
	x := full(t)
	x.refuses(api.ErrFull, touches(0, 1, 9), touches(1, 1, 5))
	x.refuses(api.ErrArg, touches(0, 1, 4), touches(0, 1, mostTick+1))
	x.refuses(api.ErrNone, touches(0, 2, 9), touches(2, 1, 9), touches(2, 1, 4))
	// One Free segment is none for Append.
	y := begun(t, tight)
	y.does(binds(0, "a", 20, 5), touches(0, 1, 6), touches(0, 1, 7))
	y.refuses(api.ErrFull, touches(0, 1, 8))
	y.does(cleans(0), cleans(1), touches(0, 1, 8))
}

// P21.3.

// TestPut: the first slice and the last that may be, those beyond, bodies of each length.
func TestPut(t *testing.T) {
	x := begun(t, shape(8, 16, 64))
	x.refuses(api.ErrNone, puts(1, 1, 0, "x"), puts(1, 0, 0, "x"))
	x.does(binds(1, "a", 20, 5))
	for _, n := range edges() {
		if n < 0 || n > mostIndex {
			x.refuses(api.ErrArg, puts(1, 1, n, "x"))
			getsNot(t, x.s, 1, n, api.ErrNone)
		}
		x.refuses(api.ErrNone, puts(n, 1, 0, "x"), puts(n, 0, 0, "x"), puts(1, n, 0, "x"))
		getsNot(t, x.s, n, 0, api.ErrNone)
	}
	x.refuses(api.ErrArg, puts(1, 1, 0, ""), puts(1, 1, 0, text(65, 1)), puts(1, 1, mostIndex+1, "x"), puts(1, 1, -1, "x"), puts(1, 1, 0, text(4096, 1)))
	x.does(puts(1, 1, 0, "x"), puts(1, 1, mostIndex, text(64, 2)), puts(1, 1, mostIndex-1, text(63, 3)), puts(1, 1, 1, "\x00"), puts(1, 1, 2, "\xff\xff"))
	for i, body := range map[int]string{0: "x", 1: "\x00", 2: "\xff\xff", mostIndex: text(64, 2), mostIndex - 1: text(63, 3)} {
		gets(t, x.s, 1, i, body)
		x.refuses(api.ErrUsed, puts(1, 1, i, "y"), puts(1, 1, i, body))
		x.refuses(api.ErrArg, puts(1, 1, i, ""), puts(1, 1, i, text(65, 1)))
		x.refuses(api.ErrNone, puts(1, 2, i, "y"), puts(1, 0, i, ""), puts(2, 1, i, "y"))
	}
	if e := x.s.Put(1, 1, 9, nil); e != api.ErrArg {
		t.Fatalf("Put without a body: error %d", e)
	}
	x.begins(2, binds(1, "b", 20, 5))
	getsNot(t, x.s, 1, 0, api.ErrNone)
	x.refuses(api.ErrNone, puts(1, 1, 5, "x"))
	x.does(puts(1, 2, 0, "another"))
	gets(t, x.s, 1, 0, "another")
}

// TestPutEach length and object.
func TestPutEach(t *testing.T) {
	x := begun(t, shape(16, 64, 64))
	for object := range objects {
		x.begins(1, binds(object, "a", 20, 5))
		for size := 1; size <= 64; size++ {
			if size%objects == object {
				x.does(puts(object, 1, 64-size, text(size, size)))
			}
		}
	}
	for object := range objects {
		x.does(purges(object))
		getsNot(t, x.s, object, 64-object, api.ErrNone)
	}
}

// TestPutNoRoom: nothing changes; ErrLong comes ahead of ErrFull, and both behind what is wrong with the arguments.
func TestPutNoRoom(t *testing.T) {
	x := begun(t, tight)
	x.does(binds(0, "a", 20, 5), puts(0, 1, 0, "123456789"), puts(0, 1, 1, "x"))
	x.refuses(api.ErrFull, puts(0, 1, 2, "y"), puts(0, 1, 3, "123456789"))
	x.refuses(api.ErrLong, puts(0, 1, 2, "1234567890"), puts(0, 1, 2, text(64, 1)))
	x.refuses(api.ErrUsed, puts(0, 1, 1, "y"), puts(0, 1, 1, text(64, 1)))
	x.refuses(api.ErrArg, puts(0, 1, 1, ""), puts(0, 1, 4097, "y"))
	x.refuses(api.ErrNone, puts(0, 2, 1, ""), puts(1, 1, 1, "y"))
	x.does(purges(0), cleans(0), cleans(1))
	x.begins(2, binds(0, "a", 20, 5))
	x.refuses(api.ErrFull, puts(0, 2, 0, "y"))
	x.does(cleans(2), puts(0, 2, 0, "y"))
}

// TestGet: what is there, what isn't, behind a Clean, behind an Open.
func TestGet(t *testing.T) {
	x := begun(t, shape(6, 4, 32))
	getsNot(t, x.s, 1, 0, api.ErrNone)
	x.does(binds(1, "a", 20, 5), puts(1, 1, 0, "abc"), puts(1, 1, 4096, "123456789"), binds(2, "a", 20, 5), puts(2, 1, 0, "other"))
	holds := func(s *store.Store) {
		t.Helper()
		gets(t, s, 1, 0, "abc")
		gets(t, s, 1, 4096, "123456789")
		gets(t, s, 2, 0, "other")
		for _, n := range append(edges(), 1, 4095) {
			getsNot(t, s, 1, n, api.ErrNone)
			if n != 1 {
				getsNot(t, s, n, 0, api.ErrNone)
			}
		}
		getsNot(t, s, 3, 0, api.ErrNone)
	}
	holds(x.s)
	holds(opened(t, x.s.Log().Device().Copy()).s)
	x.does(cleans(0))
	holds(x.s)
	x.does(seals(), cleans(1), cleans(2))
	holds(x.s)
	holds(opened(t, x.s.Log().Device().Copy()).s)
	holds(x.s.Copy())
	x.does(drops(2))
	getsNot(t, x.s, 2, 0, api.ErrNone)
	gets(t, x.s, 1, 0, "abc")
}

// TestGetReadsTheLog: a body is nowhere else, so where its record is gone, past the Store, the log's error is told.
func TestGetReadsTheLog(t *testing.T) {
	x := begun(t, small)
	x.does(binds(1, "a", 20, 5), puts(1, 1, 0, "abc"), seals())
	if e := x.s.Log().Erase(0); e != api.OK {
		t.Fatal(e)
	}
	getsNot(t, x.s, 1, 0, api.ErrNone)
	y := begun(t, small)
	y.does(binds(1, "a", 20, 5), syncs(), puts(1, 1, 0, "abc"))
	y.s.Log().Device().Crash(plan(0, -1, 0))
	getsNot(t, y.s, 1, 0, api.ErrEnd)
	if got := y.s.Live(0); len(got) != 1 || got[0].Kind != kindBind {
		t.Fatalf("Live: %v", got)
	}
}

// P21.4.

// TestDropAndPurge: without a bind, with one, twice, of objects that were never bound, that may not be.
func TestDropAndPurge(t *testing.T) {
	x := begun(t, shape(4, 16, 32))
	for _, n := range edges() {
		x.refuses(api.ErrNone, drops(n))
		x.refuses(api.ErrArg, purges(n))
	}
	for object := range objects {
		x.refuses(api.ErrNone, drops(object))
		x.refuses(api.OK, purges(object))
	}
	for _, away := range []func(int) deed{drops, purges} {
		x := begun(t, shape(4, 16, 32))
		x.does(binds(1, "a", 20, 5), puts(1, 1, 0, "abc"), binds(2, "a", 20, 5), puts(2, 1, 0, "other"), away(1))
		if x.s.Index().Floor(1) != 1 || x.s.Log().Device().Dirty() != 0 {
			t.Fatal("it isn't gone, or not synced")
		}
		gets(t, x.s, 2, 0, "other")
		getsNot(t, x.s, 1, 0, api.ErrNone)
		x.refuses(api.ErrNone, drops(1), puts(1, 1, 1, "x"), touches(1, 1, 9))
		was, _ := x.s.Index().Tomb(1)
		x.does(purges(1))
		if now, _ := x.s.Index().Tomb(1); x.s.Index().Floor(1) != 1 || now == was {
			t.Fatal("a purge behind it has no record of its own")
		}
		x.refuses(api.ErrNone, drops(1))
		x.does(binds(1, "b", 20, 5), away(1), purges(1))
		if x.s.Index().Floor(1) != 2 {
			t.Fatalf("floor %d", x.s.Index().Floor(1))
		}
	}
}

// TestKindsOfDrops: a drop's record is of its own kind, a purge's of another one, also where it is moved.
func TestKindsOfDrops(t *testing.T) {
	x := begun(t, small)
	kinds := func(want ...byte) {
		t.Helper()
		var got []byte
		for _, e := range scan.All(x.s.Log().Device()) {
			got = append(got, e.Kind)
		}
		if !bytes.Equal(got, want) {
			t.Fatalf("records of kinds %v; want %v", got, want)
		}
	}
	x.does(binds(1, "a", 20, 5), drops(1), binds(2, "a", 20, 5), purges(2))
	kinds(kindBind, kindDrop, kindBind, kindPurge)
	x.does(seals(), cleans(0), cleans(1))
	kinds(kindDrop, kindPurge)
	x.does(binds(1, "a", 20, 5), binds(1, "b", 20, 5))
	kinds(kindDrop, kindPurge, kindBind, kindDrop, kindBind)
}

// TestPurgeOfSlicesAlone: of an object that has neither a bind nor a floor nothing is done, though slices of it lie about.
func TestPurgeOfSlicesAlone(t *testing.T) {
	x := opened(t, laidOut(t, small, aPiece(1, 6, 0, "x")))
	x.refuses(api.OK, purges(1))
	x.refuses(api.ErrNone, drops(1))
	x.begins(7, binds(1, "a", 20, 5))
	x.does(purges(1))
	if x.s.Index().Floor(1) != 7 {
		t.Fatal(x.s.Index().Floor(1))
	}
	y := opened(t, laidOut(t, small, aDrop(1, 2), aPiece(1, 6, 0, "x")))
	y.does(purges(1))
	if y.s.Index().Floor(1) != 2 {
		t.Fatal(y.s.Index().Floor(1))
	}
	y.begins(7, binds(1, "a", 20, 5))
}

// TestDropNoRoom: nothing changes, and nothing is synced.
func TestDropNoRoom(t *testing.T) {
	x := full(t)
	x.refuses(api.ErrFull, drops(0), purges(0), purges(2), drops(1))
	x.refuses(api.ErrNone, drops(2), drops(3))
	x.refuses(api.ErrArg, purges(16))
	x.refuses(api.OK, purges(3))
	// What isn't lasting stays so.
	y := begun(t, tight)
	y.does(binds(0, "a", 20, 5), binds(1, "b", 20, 5), drops(1), cleans(1), binds(1, "c", 20, 5))
	y.p.log.Move(kindBind, nil)
	y.s.Log().Move(kindBind, nil)
	if y.s.Log().Device().Dirty() == 0 || y.s.Log().Count(seglog.Free) > 0 {
		t.Fatal("all is lasting, or there is room")
	}
	y.refuses(api.ErrFull, drops(0), purges(0), purges(1))
}

// TestDropTakesTheLast: a drop has room where nothing else has.
func TestDropTakesTheLast(t *testing.T) {
	for _, away := range []deed{drops(0), purges(0), drops(1)} {
		x := begun(t, tight)
		x.does(binds(0, "a", 20, 5), binds(1, "b", 20, 5), puts(0, 1, 0, "x"))
		x.refuses(api.ErrFull, puts(0, 1, 1, "x"), binds(2, "c", 20, 5), touches(0, 1, 9))
		x.does(away)
	}
}

// TestSync: all is lasting then, and stays behind each crash.
func TestSync(t *testing.T) {
	x := begun(t, small)
	x.does(syncs(), binds(1, "a", 20, 5), puts(1, 1, 0, "abc"))
	if y := x.again(plan(0, -1, 0)); y.s.Index().Last(1) != 0 {
		t.Fatal("something is there that wasn't synced")
	}
	x.does(syncs())
	if x.s.Log().Device().Dirty() != 0 {
		t.Fatal("Sync left something")
	}
	gets(t, x.again(plan(0, 0, 0)).s, 1, 0, "abc")
	x.does(touches(1, 1, 9), puts(1, 1, 1, "de"))
	for c := range crash.All(x.s.Log().Device().Dirty()) {
		gets(t, x.again(c).s, 1, 0, "abc")
	}
}

// P21.5.

// kindsLive are the kinds of a segment's Live entries.
func kindsLive(s *store.Store, seg int) string {
	var out []byte
	for _, e := range s.Live(seg) {
		out = append(out, '0'+e.Kind)
	}
	return string(out)
}

// TestLive: of segments that are open, sealed, free, that there aren't; each kind of record, and what isn't needed any more.
func TestLive(t *testing.T) {
	x := begun(t, small)
	live := func(want ...string) {
		t.Helper()
		x.holds()
		for seg, w := range want {
			if got := kindsLive(x.s, seg); got != w {
				t.Fatalf("%s: Live(%d) has the kinds %q; want %q", strings.Join(x.done, "; "), seg, got, w)
			}
		}
		for _, seg := range edges() {
			if len(x.s.Live(seg)) > 0 {
				t.Fatalf("Live(%d): %v", seg, x.s.Live(seg))
			}
		}
	}
	live("", "", "", "")
	x.does(binds(1, "a", 20, 5))
	live("2", "", "", "")
	x.does(puts(1, 1, 0, "abc"), puts(1, 1, 1, "de"), touches(1, 1, 6))
	live("33", "2", "", "")
	x.does(touches(1, 1, 6))
	live("33", "2", "", "")
	x.does(seals())
	live("33", "2", "", "")
	x.does(drops(1))
	live("", "", "4", "")
	x.does(cleans(0), cleans(1), purges(1))
	live("", "", "5", "")
	x.does(binds(1, "b", 20, 5), binds(1, "c", 20, 5))
	live("42", "", "", "")
}

// TestLiveEntry: as the log has it.
func TestLiveEntry(t *testing.T) {
	x := begun(t, shape(4, 8, 16))
	x.does(binds(1, "a", 20, 5), puts(1, 1, 3, "abc"))
	want := []api.Entry{
		{At: at(0, 1), Seq: 1, Pages: 2, Kind: kindBind, Data: bindData(api.Bind{Object: 1, Gen: 1, Tag: "a", Length: 20, Tick: 5})},
		{At: at(0, 3), Seq: 1, Pages: 2, Kind: kindPiece, Data: pieceData(1, 1, 3, "abc")},
	}
	if got := x.s.Live(0); !slices.EqualFunc(got, want, like) {
		t.Fatalf("Live: %v; want %v", got, want)
	}
	x.does(seals(), cleans(0))
	for n := range want {
		want[n].At.Segment, want[n].Seq = 1, 2
	}
	if got := x.s.Live(1); !slices.EqualFunc(got, want, like) {
		t.Fatalf("Live: %v; want %v", got, want)
	}
}

// TestCleanWhich: those alone that are there, and sealed.
func TestCleanWhich(t *testing.T) {
	x := begun(t, small)
	for _, seg := range append(edges(), 0, 1, 2, 3, 4) {
		x.refuses(api.ErrArg, cleans(seg))
	}
	x.does(binds(1, "a", 20, 5))
	for _, seg := range append(edges(), 0, 1, 2, 3, 4) {
		x.refuses(api.ErrArg, cleans(seg))
	}
	x.does(seals(), cleans(0))
	// It is free now, and what was moved is open.
	x.refuses(api.ErrArg, cleans(0), cleans(1), cleans(2), cleans(-1), cleans(4))
	for _, shape := range shapes() {
		x := begun(t, shape)
		x.refuses(api.ErrArg, cleans(0), cleans(-1), cleans(shape.Segments-1), cleans(shape.Segments), cleans(16))
	}
}

// TestClean: without a Live entry, with some, with all of them Live, with a floor's record; nothing of what is told changes but places.
func TestClean(t *testing.T) {
	rows := []struct {
		name string
		row  []deed
		want string
	}{
		{"nothing is Live", []deed{binds(1, "a", 20, 5), puts(1, 1, 0, "abc"), seals(), drops(1)}, ""},
		{"nothing was ever put", []deed{binds(1, "a", 20, 5), seals(), touches(1, 1, 5)}, ""},
		{"all are Live", []deed{binds(1, "a", 20, 5), puts(1, 1, 0, "abc"), puts(1, 1, 1, "de")}, "233"},
		{"a slice", []deed{binds(1, "a", 20, 5), puts(1, 1, 0, "abc"), seals(), touches(1, 1, 6)}, "3"},
		{"a drop", []deed{binds(1, "a", 20, 5), drops(1), binds(2, "a", 20, 5)}, "42"},
		{"a purge", []deed{binds(1, "a", 20, 5), purges(1), binds(1, "b", 20, 5)}, "52"},
		{"a floor below a bind elsewhere", []deed{binds(1, "a", 20, 5), drops(1), seals(), binds(1, "b", 20, 5), puts(1, 2, 0, "x")}, "4"},
		{"a drop that another one is behind", []deed{binds(1, "a", 20, 5), drops(1), seals(), purges(1)}, ""},
		{"a bind without its slices", []deed{binds(1, "a", 20, 5), seals(), puts(1, 1, 0, "abc")}, "2"},
		{"slices of many", []deed{binds(1, "a", 20, 5), binds(2, "a", 20, 5), seals(), puts(2, 1, 0, "x"), puts(1, 1, 0, "y"), puts(2, 1, 1, "z")}, "22"},
	}
	for _, r := range rows {
		x := begun(t, small)
		x.does(r.row...)
		x.does(seals())
		was := x.s.Index()
		if got := kindsLive(x.s, 0); got != r.want {
			t.Fatalf("%s: Live(0) has the kinds %q; want %q", r.name, got, r.want)
		}
		x.does(cleans(0))
		if x.s.Log().State(0) != seglog.Free || x.s.Log().Device().Dirty() != 0 {
			t.Fatalf("%s: it isn't free, or not all is synced", r.name)
		}
		samePlacesApart(t, x.s.Index(), was)
		y := opened(t, x.s.Log().Device().Copy())
		if !index.Same(y.s.Index(), x.s.Index()) {
			t.Fatalf("%s: Opened anew it is another one", r.name)
		}
	}
}

// samePlacesApart holds that two Indexes tell the same but for places.
func samePlacesApart(t *testing.T, got, want index.Index) {
	t.Helper()
	for object := range objects {
		a, b := look(got, object), look(want, object)
		a.where, a.tomb, a.places = b.where, b.tomb, b.places
		if !a.like(b) {
			t.Fatalf("object %d: %+v; want %+v", object, a, b)
		}
	}
}

// TestCleanNoRoom: none for the first move: nothing has changed. What has nothing that is Live is cleaned none the less, and then there is room.
func TestCleanNoRoom(t *testing.T) {
	x := full(t)
	x.refuses(api.ErrFull, cleans(0), cleans(1))
	x.refuses(api.ErrArg, cleans(3), cleans(4))
	x.does(cleans(2), cleans(0), cleans(1))
}

// TestCleanSomeRoom: room for some moves alone: what was moved stays moved, isn't synced, and the segment stays.
func TestCleanSomeRoom(t *testing.T) {
	x := begun(t, small)
	x.does(binds(0, "a", 20, 5), puts(0, 1, 0, "abc"), puts(0, 1, 1, "de"))
	x.does(binds(1, "b", 20, 5), puts(1, 1, 0, "fgh"), puts(1, 1, 1, "ij"))
	x.does(binds(2, "c", 20, 5), puts(2, 1, 0, "kl"), puts(2, 1, 1, "mn"))
	x.does(purges(2), purges(2))
	was := x.s.Index()
	if n, e := x.answers(cleans(0)); n != 0 || e != api.ErrFull {
		t.Fatalf("Clean: error %d", e)
	}
	x.holds()
	if x.s.Log().State(0) != seglog.Sealed || x.s.Log().Device().Dirty() != 1 || kindsLive(x.s, 0) != "33" || kindsLive(x.s, 3) != "52" {
		t.Fatalf("behind some moves: state %d, %d pages not lasting, Live %q, %q", x.s.Log().State(0), x.s.Log().Device().Dirty(), kindsLive(x.s, 0), kindsLive(x.s, 3))
	}
	samePlacesApart(t, x.s.Index(), was)
	for _, c := range []api.Plan{plan(0, -1, 0), plan(1, -1, 0), plan(0, 0, 20)} {
		y := x.again(c)
		gets(t, y.s, 0, 1, "de")
		y.does(cleans(2), cleans(0))
	}
	x.refuses(api.ErrFull, cleans(0), cleans(1))
	x.does(cleans(2), cleans(0), cleans(1))
	samePlacesApart(t, x.s.Index(), was)
}

// TestCleanAgainAndAgain: a store's segments are cleaned in turn, and nothing of it is ever lost, nor is it more.
func TestCleanAgainAndAgain(t *testing.T) {
	x := begun(t, small)
	x.does(binds(1, "a", 20, 5), puts(1, 1, 0, "abc"), puts(1, 1, 7, "de"), purges(2), binds(2, "b", 20, 5), drops(2))
	was := x.s.Index()
	for n := range 40 {
		seg := n % 4
		if x.s.Log().State(seg) == seglog.Opened {
			x.does(seals())
		}
		if x.s.Log().State(seg) == seglog.Sealed {
			x.does(cleans(seg))
		}
		samePlacesApart(t, x.s.Index(), was)
		if n := len(scan.All(x.s.Log().Device())); n > 6 {
			t.Fatalf("there are %d records", n)
		}
	}
}

// P21.6.

// TestLostBind: behind a crash slices lie about whose bind was lost; they never come to count.
func TestLostBind(t *testing.T) {
	x := begun(t, shape(6, 4, 32))
	x.does(binds(1, "a", 20, 0), puts(1, 1, 0, "old"), drops(1), binds(2, "a", 20, 0), puts(2, 1, 0, "other"))
	x.begins(2, binds(1, "b", 20, 0))
	x.does(puts(1, 2, 0, "new"), puts(1, 2, 1, "newer"))
	// Of the seven pages that aren't lasting one is lost: that of a head, of another object's bind or slice, of the bind, of the next segment's head, of a slice. Where the bind is lost, and what tells of its generation isn't, a new one is above it.
	for lost := range 7 {
		y := x.again(plan(127&^(1<<lost), -1, 0))
		_, is := y.s.Index().Get(1)
		if is != (lost >= 4) || y.s.Index().Floor(1) != 1 {
			t.Fatalf("page %d lost: is there a bind? %v", lost, is)
		}
		y.begins(3, binds(1, "c", 20, 0))
		if y.s.Index().Slices(1).Len() > 0 {
			t.Fatalf("page %d lost: slices of old are there", lost)
		}
		z := y.again(plan(math.MaxUint64, -1, 0))
		if b, _ := z.s.Index().Get(1); b.Tag != "c" || z.s.Index().Slices(1).Len() > 0 {
			t.Fatalf("page %d lost: %+v", lost, b)
		}
	}
	// Without the slices nothing tells of it.
	x.again(plan(0, -1, 0)).begins(2, binds(1, "c", 20, 0))
	x.again(plan(127&^(1<<3|1<<4), -1, 0)).begins(2, binds(1, "c", 20, 0))
	x.again(plan(127&^(1<<3), 5, 9)).begins(2, binds(1, "c", 20, 0))
}

// crashes are plans for a device: each Keep of few pages, and each page torn at some places.
func crashes(d *flash.Device) []api.Plan {
	n := min(d.Dirty(), 5)
	out := slices.Collect(crash.All(n))
	for _, cut := range []int{1, 15, d.Shape().Bytes - 1, d.Shape().Bytes} {
		out = slices.AppendSeq(out, crash.Torn(min(n, 3), cut))
	}
	return append(out, plan(math.MaxUint64, -1, 0), plan(math.MaxUint64, 0, 7), plan(math.MaxUint64-1, -1, 0), plan(math.MaxUint64-2, -1, 0))
}

// TestEachCrash: each crash behind each deed of a row; who goes on behind it does so rightly.
func TestEachCrash(t *testing.T) {
	row := []deed{
		binds(1, "a", 20, 5), puts(1, 1, 0, "abc"), puts(1, 1, 1, "de"), touches(1, 1, 6), syncs(), puts(1, 1, 2, "later"), touches(1, 1, 7), binds(2, "b", 20, 5), puts(2, 1, 0, "x"),
		binds(1, "c", 20, 5), puts(1, 2, 0, "new"), purges(2), binds(2, "d", 20, 5), puts(2, 2, 5, "y"), seals(), cleans(0), touches(2, 2, 9), puts(1, 2, 1, "z"), cleans(1), cleans(2), drops(1), puts(2, 2, 6, "w"), binds(1, "e", 20, 5),
	}
	for _, shape := range []api.Shape{shape(6, 5, 32), shape(5, 9, 16)} {
		x := begun(t, shape)
		for _, d := range row {
			x.answers(d)
			x.holds()
			for _, c := range crashes(x.s.Log().Device()) {
				y := x.again(c)
				for _, object := range []int{1, 2} {
					y.answers(binds(object, "n", 9, 9))
					y.answers(cleans(object))
				}
				y.holds()
				opened(t, y.s.Log().Device())
			}
		}
	}
}

// TestCrashOfEachCut: a record's page torn behind each of its bytes.
func TestCrashOfEachCut(t *testing.T) {
	x := begun(t, small)
	x.does(binds(1, "a", 20, 5), puts(1, 1, 0, "abc"), syncs(), puts(1, 1, 1, "de"))
	for _, d := range []deed{touches(1, 1, 9), binds(2, "b", 20, 5), puts(1, 1, 2, "fgh")} {
		y := x.copied()
		y.does(d)
		for torn := range y.s.Log().Device().Dirty() {
			for cut := range 33 {
				gets(t, y.again(plan(math.MaxUint64, torn, cut)).s, 1, 0, "abc")
			}
		}
	}
}

// TestDropsLast: no crash brings back what was dropped, purged, or bound anew.
func TestDropsLast(t *testing.T) {
	for _, away := range []deed{drops(1), purges(1), binds(1, "b", 20, 5)} {
		x := begun(t, small)
		x.does(binds(1, "a", 20, 5), puts(1, 1, 0, "abc"))
		x.does(away)
		for _, c := range crashes(x.s.Log().Device()) {
			y := x.again(c)
			if y.s.Index().Floor(1) != 1 || y.s.Index().Slices(1).Len() > 0 {
				t.Fatalf("%s: behind crash %+v it is back", strings.Join(x.done, "; "), c)
			}
		}
	}
}

// TestCleansLast: what is cleaned is lasting elsewhere ahead of being gone.
func TestCleansLast(t *testing.T) {
	x := begun(t, small)
	x.does(binds(1, "a", 20, 5), puts(1, 1, 0, "abc"), puts(1, 1, 1, "de"), seals(), cleans(0))
	for _, c := range crashes(x.s.Log().Device()) {
		gets(t, x.again(c).s, 1, 1, "de")
	}
}

// copyDeeds are such of each kind, all of which change x behind a few deeds.
func copyDeeds() []deed {
	return []deed{binds(1, "n", 20, 9), binds(3, "n", 20, 9), touches(1, 1, 9), puts(1, 1, 9, "n"), drops(1), purges(1), purges(4), syncs(), cleans(0), seals()}
}

// TestCopy goes its own way: of two one does a deed, the other one stays as it was; then that one does it.
func TestCopy(t *testing.T) {
	for _, first := range copyDeeds() {
		for _, second := range copyDeeds() {
			x := begun(t, shape(6, 4, 32))
			x.does(binds(1, "a", 20, 5), puts(1, 1, 0, "abc"), puts(1, 1, 1, "de"), binds(4, "b", 20, 5), drops(4), puts(1, 1, 2, "fg"))
			y := x.copied()
			if y.s == x.s || y.s.Log() == x.s.Log() || y.s.Log().Device() == x.s.Log().Device() {
				t.Fatal("a Copy isn't its own")
			}
			x.answers(first)
			y.holds()
			y.answers(second)
			x.holds()
			y.holds()
			z := y.copied()
			z.answers(first)
			y.holds()
			z.holds()
		}
	}
}

// TestCopyOfOpened: it knows the same generations.
func TestCopyOfOpened(t *testing.T) {
	x := opened(t, laidOut(t, small, aPiece(1, 6, 0, "x"), aBind(2, 4, "a", 20, 5), aPiece(15, 9, 0, "x")))
	y := x.copied().copied()
	for object, gen := range map[int]int{0: 1, 1: 7, 2: 5, 15: 10} {
		y.copied().begins(gen, binds(object, "b", 20, 5))
	}
	y.holds()
	x.begins(7, binds(1, "b", 20, 5))
	y.begins(7, binds(1, "c", 20, 5))
	x.holds()
}

// nobodys are Stores that nobody made.
func nobodys() []*store.Store {
	var none *store.Store
	failed, _ := store.New(nil)
	lost, _ := store.Open(&flash.Device{})
	return []*store.Store{nil, none, {}, new(store.Store), failed, lost, none.Copy(), new(store.Store).Copy()}
}

// TestNobodyMade: ErrNil ahead of whatever else is wrong, an empty index, nil.
func TestNobodyMade(t *testing.T) {
	numbers := append(edges(), 0, 1, 2, 15, 4096)
	for _, s := range nobodys() {
		for _, n := range numbers {
			for _, m := range numbers {
				gen, e := s.Bind(n, "a", m, m)
				if gen != 0 || e != api.ErrNil || s.Touch(n, m, m) != api.ErrNil || s.Put(n, m, m, []byte("abc")) != api.ErrNil || s.Put(n, m, m, nil) != api.ErrNil {
					t.Fatalf("Bind, Touch or Put at %d, %d", n, m)
				}
				getsNot(t, s, n, m, api.ErrNil)
			}
			if gen, e := s.Bind(1, "a b\"", n, n); gen != 0 || e != api.ErrNil {
				t.Fatalf("Bind: %d, %d", gen, e)
			}
			if s.Drop(n) != api.ErrNil || s.Purge(n) != api.ErrNil || s.Clean(n) != api.ErrNil || len(s.Live(n)) > 0 {
				t.Fatalf("Drop, Purge, Clean or Live of %d", n)
			}
			s.Sync()
		}
		if !index.Same(s.Index(), index.New()) || s.Log() != nil || s.Copy() != nil {
			t.Fatal("Index, Log or Copy")
		}
	}
}

// Rows and plays.

// rowDeeds are few deeds, of which all rows are done on small devices.
func rowDeeds() []deed {
	current := func(name string, of func(gen int) deed) deed {
		return deed{
			name,
			func(s *store.Store) (int, api.Errno) {
				b, _ := s.Index().Get(1)
				return of(b.Gen).store(s)
			},
			func(p *paper) (int, api.Errno) { return of(p.of(1).bind.Gen).paper(p) },
		}
	}
	return []deed{
		binds(1, "a", 20, 5), binds(2, "b", 20, 5), puts(1, 1, 0, "abc"), drops(1), purges(1), purges(2), syncs(), cleans(0), cleans(1),
		current("Put(1, .., 1)", func(gen int) deed { return puts(1, gen, 1, "de") }),
		current("Touch(1, .., 6)", func(gen int) deed { return touches(1, gen, 6) }),
	}
}

// TestRows: all rows of few deeds, with crashes behind them.
func TestRows(t *testing.T) {
	deeds := rowDeeds()
	n := 0
	var follow func(x *pair, left int)
	follow = func(x *pair, left int) {
		x.holds()
		if n++; n%41 == 0 {
			for _, c := range crashes(x.s.Log().Device()) {
				x.again(c)
			}
		}
		if left == 0 {
			return
		}
		for _, d := range deeds {
			y := x.copied()
			y.answers(d)
			follow(y, left-1)
		}
	}
	follow(begun(t, shape(4, 3, 32)), 3)
	follow(begun(t, tight), 4)
}

// deed is any one, mostly such that it comes to something.
func (x *dice) deed(p *paper) deed {
	s := p.log.Device().Shape()
	object := x.next(4)
	if x.next(60) == 0 {
		object = []int{-1, 16, 15, 9, math.MaxInt}[x.next(5)]
	}
	b := p.of(object).bind
	if x.next(12) == 0 {
		b.Gen += x.next(3) - 1
	}
	switch x.next(13) {
	case 0:
		return binds(object, "abc"[:x.next(3)], x.next(4098), x.next(20))
	case 1, 2, 3, 4, 5:
		return puts(object, b.Gen, []int{x.next(6), x.next(6), x.next(6), 4095 + x.next(3)}[x.next(4)], text(x.next(1+min(66, 2*s.Bytes)), x.next(1000)))
	case 6:
		return touches(object, b.Gen, b.Tick+x.next(4)-1)
	case 7:
		if x.next(3) == 0 {
			return purges(object)
		}
		return drops(object)
	case 8:
		return syncs()
	case 9:
		return seals()
	}
	return cleans(x.next(s.Segments+2) - 1)
}

// TestPlays: long rows of any deeds on devices of many shapes; with crashes, behind which each goes on.
func TestPlays(t *testing.T) {
	for seed, shape := range slices.Repeat([]api.Shape{tight, small, shape(4, 3, 64), shape(5, 7, 16), shape(6, 5, 48), shape(4, 12, 20), shape(9, 4, 128)}, 5) {
		dice := seeded(seed)
		x := begun(t, shape)
		for n := range 160 {
			x.answers(dice.deed(x.p))
			if n%5 == 0 {
				x.holds()
			}
			if n%7 == 0 {
				x.again(dice.plan(x.s.Log().Device().Dirty(), shape.Bytes))
			}
			if dice.next(25) == 0 {
				x = x.again(dice.plan(x.s.Log().Device().Dirty(), shape.Bytes))
			}
		}
		x.holds()
	}
}

// TestGenerationsRise: each new one is above each that a record of the object had, crashes or not.
func TestGenerationsRise(t *testing.T) {
	for seed := range 12 {
		dice := seeded(100 + seed)
		x := begun(t, shape(5, 4, 32))
		for range 120 {
			most := 0
			for _, e := range scan.All(x.s.Log().Device()) {
				if s := says(e); s.kind != 0 && s.bind.Object == 1 {
					most = max(most, s.bind.Gen)
				}
			}
			if gen, e := x.answers(binds(1, "a", 20, 5)); e == api.OK && gen <= most {
				t.Fatalf("%s: generation %d; there are records of %d", strings.Join(x.done, "; "), gen, most)
			}
			x.answers(puts(1, x.p.of(1).bind.Gen, dice.next(3), "x"))
			x.answers(cleans(dice.next(5)))
			x.answers(cleans(dice.next(5)))
			if dice.next(3) == 0 {
				x = x.again(dice.plan(x.s.Log().Device().Dirty(), 32))
			}
		}
	}
}

// The rules that hold everywhere.

// TestGivenStays: a body is neither changed nor kept, and what lies behind its length plays no part.
func TestGivenStays(t *testing.T) {
	for _, size := range []int{0, 1, 7, 64, 65} {
		x := begun(t, shape(4, 16, 64))
		x.does(binds(1, "a", 20, 5))
		whole := []byte(text(200, size))
		was := bytes.Clone(whole)
		e := x.s.Put(1, 1, 0, whole[10:10+size])
		if !bytes.Equal(whole, was) {
			t.Fatalf("Put of %d bytes changed what it was given", size)
		}
		if _, errno := puts(1, 1, 0, string(was[10:10+size])).paper(x.p); e != errno {
			t.Fatalf("Put of %d bytes: error %d; want %d", size, e, errno)
		}
		for i := range whole {
			whole[i] ^= 0xFF
		}
		x.holds()
	}
}

// spoil changes all bytes of a list, also those behind its length.
func spoil(b []byte) {
	b = b[:cap(b)]
	for i := range b {
		b[i] ^= 0xA5
	}
}

// TestAnswersAreNobodys: what Get and Live hand out may be changed.
func TestAnswersAreNobodys(t *testing.T) {
	x := begun(t, small)
	x.does(binds(1, "a", 20, 5), puts(1, 1, 0, "abc"), puts(1, 1, 1, "de"), purges(2), binds(2, "b", 20, 5), drops(2))
	b, _ := x.s.Get(1, 0)
	other, _ := x.s.Get(1, 0)
	spoil(b)
	if string(other) != "abc" {
		t.Fatalf("two answers of Get share memory: %q", other)
	}
	x.holds()
	for seg := range 4 {
		l, other := x.s.Live(seg), x.s.Live(seg)
		for n := range l {
			// One entry's Data, and what is behind it, is none of the next one's.
			spoil(l[n].Data)
			for m := n + 1; m < len(l); m++ {
				if !like(l[m], other[m]) {
					t.Fatalf("Live(%d): entries %d and %d share memory", seg, n, m)
				}
			}
		}
		clear(l[:cap(l)])
		if !slices.EqualFunc(other, x.p.live(t, seg), like) {
			t.Fatalf("Live(%d): two answers share memory", seg)
		}
	}
	x.holds()
}

// TestIndexIsNobodys: one that was handed out stays as it was, whatever is done; and what is made of it is none of the Store's.
func TestIndexIsNobodys(t *testing.T) {
	x := begun(t, shape(6, 4, 32))
	x.does(binds(1, "a", 20, 5), puts(1, 1, 0, "abc"), puts(1, 1, 1, "de"), binds(4, "b", 20, 5), drops(4), puts(1, 1, 2, "fg"))
	was, sheets := x.s.Index(), x.p.sheets
	more := was.Piece(1, 1, 9, at(3, 3)).Drop(1, 1).Bind(api.Bind{Object: 3, Gen: 1})
	clear(was.Places(1))
	x.holds()
	for _, d := range copyDeeds() {
		y := x.copied()
		y.answers(d)
		x.answers(d)
		for object, sheet := range sheets {
			if !look(was, object).like(sheet.tells()) {
				t.Fatalf("%s: an index that was handed out has changed", strings.Join(x.done, "; "))
			}
		}
	}
	if more.Last(3) != 1 || more.Floor(1) != 1 {
		t.Fatal("an index that was made of it has changed")
	}
}

// TestNoOtherState: the same deeds come to the same, and many Stores go on at the same time.
func TestNoOtherState(t *testing.T) {
	var wait sync.WaitGroup
	for range 4 {
		wait.Go(func() {
			d, _ := flash.New(shape(8, 4, 32))
			s, e := store.New(d)
			for n := range 50 {
				gen, _ := s.Bind(n%3, "a", 20, n)
				s.Put(n%3, gen, 0, []byte{byte(n)})
				b, errno := s.Get(n%3, 0)
				if e != api.OK || gen != 1+n/3 || errno != api.OK || len(b) != 1 || b[0] != byte(n) {
					t.Errorf("deed %d: generation %d, %v, %d", n, gen, b, errno)
					return
				}
				for seg := range 8 {
					s.Clean(seg)
				}
			}
		})
	}
	wait.Wait()
}
