package replay_test

import (
	"bytes"
	"encoding/binary"
	"fmt"
	"maps"
	"math"
	"slices"
	"strings"
	"sync"
	"testing"

	"spence/api"
	"spence/codec"
	"spence/index"
	"spence/replay"
)

// How many objects there are, and the kinds of records, told by hand.
const (
	objects = 16
	heads   = 1
	binds   = 2
	pieces  = 3
	drops   = 4
	purges  = 5
)

// mostGen is the greatest generation, mostIndex the greatest number of a slice, mostTick the greatest tick.
const (
	mostGen   = 2147483647
	mostIndex = 4096
	mostTick  = 4611686018427387903
)

// at is a place; those that are told in one test apart have numbers apart, and that of 0 is the zero place.
func at(n int) api.Addr { return api.Addr{Segment: n % 16, Page: n} }

// raw is a record at a place, of any kind and with any bytes.
func raw(n int, kind byte, data []byte) api.Entry {
	return api.Entry{At: at(n), Seq: uint64(7 + n), Pages: 1 + n%3, Kind: kind, Data: data}
}

// head is what each record begins with, laid by the library.
func head(object, gen int) []byte {
	return binary.BigEndian.AppendUint32([]byte{byte(object)}, uint32(gen))
}

// own makes records of one object.
type own int

func (o own) bind(n, gen int, tag string, length, tick int) api.Entry {
	b := binary.BigEndian.AppendUint16(head(int(o), gen), uint16(length))
	return raw(n, binds, append(binary.BigEndian.AppendUint64(b, uint64(tick)), tag...))
}

func (o own) piece(n, gen, i int) api.Entry {
	return raw(n, pieces, append(binary.BigEndian.AppendUint16(head(int(o), gen), uint16(i)), byte(n), 9))
}

func (o own) drop(n, gen int) api.Entry { return raw(n, drops, head(int(o), gen)) }

func (o own) purge(n, gen int) api.Entry { return raw(n, purges, head(int(o), gen)) }

// placed is a record elsewhere.
func placed(e api.Entry, n int) api.Entry {
	e.At = at(n)
	return e
}

// apart are the records, each at a place of its own.
func apart(l []api.Entry) []api.Entry {
	out := slices.Clone(l)
	for n := range out {
		out[n].At = at(1 + n)
	}
	return out
}

// said is what a record says, told without codec.
type said struct {
	kind      byte
	object, i int
	bind      api.Bind
}

// says reads a record; kind 0, if it isn't right.
func says(e api.Entry) said {
	b := e.Data
	if len(b) < 5 {
		return said{}
	}
	s := said{kind: e.Kind, object: int(b[0])}
	s.bind = api.Bind{Object: s.object, Gen: int(binary.BigEndian.Uint32(b[1:5]))}
	right := s.object < objects && s.bind.Gen >= 1 && s.bind.Gen <= mostGen
	switch e.Kind {
	case binds:
		if !right || len(b) < 15 {
			return said{}
		}
		tick := binary.BigEndian.Uint64(b[7:15])
		s.bind.Length, s.bind.Tick, s.bind.Tag = int(binary.BigEndian.Uint16(b[5:7])), int(tick), string(b[15:])
		right = s.bind.Length <= 4096 && tick <= mostTick && tagged(b[15:])
	case pieces:
		if !right || len(b) < 8 || len(b) > 7+64 {
			return said{}
		}
		s.i = int(binary.BigEndian.Uint16(b[5:7]))
		right = s.i <= mostIndex
	case drops, purges:
		s.kind = drops
		right = right && len(b) == 5
	default:
		right = false
	}
	if !right {
		return said{}
	}
	return s
}

// tagged is whether bytes may be a validator's.
func tagged(b []byte) bool {
	for _, c := range b {
		if c <= ' ' || c == '"' || c == 127 {
			return false
		}
	}
	return len(b) <= 40
}

// told is what an Index tells of an object.
type told struct {
	bind   api.Bind
	is     bool
	where  api.Addr
	floor  int
	tomb   api.Addr
	buried bool
	slices []int
	places []api.Addr
}

func (a told) like(b told) bool {
	return a.bind == b.bind && a.is == b.is && a.where == b.where && a.floor == b.floor && a.tomb == b.tomb && a.buried == b.buried && slices.Equal(a.slices, b.slices) && slices.Equal(a.places, b.places)
}

// tied is what is told of an object that has a bind alone.
func (o own) tied(n, gen int, tag string, length, tick int) told {
	return told{bind: api.Bind{Object: int(o), Gen: gen, Tag: tag, Length: length, Tick: tick}, is: true, where: at(n)}
}

// with are slices that there are, too, each with the number of its place behind it.
func (a told) with(l ...int) told {
	for k := 0; k < len(l); k += 2 {
		a.slices = append(a.slices, l[k])
		a.places = append(a.places, at(l[k+1]))
	}
	return a
}

// above is a floor that there is, too.
func (a told) above(n, gen int) told {
	a.floor, a.tomb, a.buried = gen, at(n), true
	return a
}

// look is what an Index tells of an object.
func look(x index.Index, object int) told {
	var a told
	a.bind, a.is = x.Get(object)
	a.where, _ = x.Where(object)
	a.floor = x.Floor(object)
	a.tomb, a.buried = x.Tomb(object)
	a.slices = x.Slices(object).List()
	a.places = x.Places(object)
	return a
}

// everything is what is told of all objects.
type everything [objects]told

func all(x index.Index) everything {
	var out everything
	for object := range out {
		out[object] = look(x, object)
	}
	return out
}

func (a everything) like(b everything) bool {
	for object := range a {
		if !a[object].like(b[object]) {
			return false
		}
	}
	return true
}

// paper is what the document says of an object behind records, told by looking back over all of them: the floor is the greatest generation that ever was dropped, the bind's Gen the greatest one above it. Slices count from their bind on (One by one), or wherever they stand (All).
func paper(l []api.Entry, object int, wherever bool) told {
	var out told
	var mine []said
	var places []api.Addr
	gen := 0
	for _, e := range l {
		if s := says(e); s.kind != 0 && s.object == object {
			mine, places = append(mine, s), append(places, e.At)
			if s.kind == drops {
				out.floor = max(out.floor, s.bind.Gen)
			}
		}
	}
	for k, s := range mine {
		switch {
		case s.kind == drops && s.bind.Gen == out.floor:
			out.tomb, out.buried = places[k], true
		case s.kind == binds && s.bind.Gen > out.floor:
			gen = max(gen, s.bind.Gen)
		}
	}
	if gen == 0 {
		return out
	}
	first := slices.IndexFunc(mine, func(s said) bool { return s.kind == binds && s.bind.Gen == gen })
	out.bind, out.is = mine[first].bind, true
	there := map[int]api.Addr{}
	for k, s := range mine {
		known := s.bind
		known.Tick = out.bind.Tick
		switch {
		case s.bind.Gen != gen || s.kind == drops:
		case s.kind == pieces && (wherever || k > first):
			there[s.i] = places[k]
		case s.kind == binds && known == out.bind && s.bind.Tick >= out.bind.Tick:
			out.bind, out.where = s.bind, places[k]
		}
	}
	out.slices = slices.Sorted(maps.Keys(there))
	for _, i := range out.slices {
		out.places = append(out.places, there[i])
	}
	return out
}

// papers are those of all objects.
func papers(l []api.Entry, wherever bool) everything {
	var out everything
	for object := range out {
		out[object] = paper(l, object, wherever)
	}
	return out
}

// needed is P20.2 of Live, told of what is told.
func needed(a everything, e api.Entry) bool {
	s := says(e)
	switch b := a[s.object]; s.kind {
	case binds:
		return b.is && b.bind == s.bind && b.where == e.At
	case pieces:
		k, is := slices.BinarySearch(b.slices, s.i)
		return is && b.bind.Gen == s.bind.Gen && b.places[k] == e.At
	case drops:
		return b.buried && b.floor == s.bind.Gen && b.tomb == e.At
	}
	return false
}

// inside is P20.3, told of what is told.
func inside(a, b everything) bool {
	for object := range a {
		x, y := a[object], b[object]
		if x.floor > y.floor {
			return false
		}
		if !x.is {
			continue
		}
		if !y.is || x.bind.Gen != y.bind.Gen || x.bind.Tag != y.bind.Tag || x.bind.Length != y.bind.Length || x.bind.Tick > y.bind.Tick {
			return false
		}
		for _, i := range x.slices {
			if !slices.Contains(y.slices, i) {
				return false
			}
		}
	}
	return true
}

// behind is x behind records, One by one.
func behind(x index.Index, l ...api.Entry) index.Index {
	for _, e := range l {
		x = replay.One(x, e)
	}
	return x
}

// show is a row of records, as a text.
func show(l []api.Entry) string {
	var out strings.Builder
	for _, e := range l {
		s := says(e)
		switch s.kind {
		case binds:
			fmt.Fprintf(&out, "bind %+v", s.bind)
		case pieces:
			fmt.Fprintf(&out, "piece %d of %d, gen %d", s.i, s.object, s.bind.Gen)
		case drops:
			fmt.Fprintf(&out, "drop %d, gen %d", s.object, s.bind.Gen)
		default:
			fmt.Fprintf(&out, "nothing, %d % x", e.Kind, e.Data)
		}
		fmt.Fprintf(&out, " at %v; ", e.At)
	}
	return out.String()
}

// full is a row behind which each object has a bind, slices, and a floor at each second one.
func full() []api.Entry {
	var l []api.Entry
	for object := objects - 1; object >= 0; object-- {
		o := own(object)
		if object%2 == 0 {
			l = append(l, o.drop(100+object, 2))
		}
		l = append(l, o.bind(200+object, 3, "a", 50, 5), o.piece(300+object, 3, 1), o.piece(400+object, 3, 0), o.piece(500+object, 3, mostIndex))
	}
	return l
}

// edges are objects, those that may not be among them.
func edges() []int {
	l := []int{-1, -2, objects, objects + 1, 31, 32, 255, 256, 257, 1 << 16, 1 << 32, 1<<32 + 1, -1 << 32, math.MaxInt, math.MinInt, math.MinInt + 1}
	for object := range objects {
		l = append(l, object)
	}
	return l
}

// rightOnes are records that are right, of each kind: ordinary ones, and those at the bounds of codec.
func rightOnes(o own) []api.Entry {
	long := strings.Repeat("x", 40)
	sized := func(n int) api.Entry {
		e := o.piece(0, 3, 2)
		e.Data = append(e.Data[:7], bytes.Repeat([]byte{0xFF}, n)...)
		return e
	}
	return []api.Entry{
		o.bind(0, 4, "v1-0", 53, 9), o.bind(0, 1, "", 0, 0), o.bind(0, mostGen, long, 4096, mostTick), o.bind(0, 3, "a", 50, 6), o.bind(0, 3, "a", 50, 4), o.bind(0, 256, "\xff\x80!#~", 255, 256),
		o.piece(0, 3, 2), o.piece(0, 3, 0), o.piece(0, 3, mostIndex), o.piece(0, 1, 2), o.piece(0, mostGen, 0), sized(1), sized(64),
		o.drop(0, 3), o.drop(0, 1), o.drop(0, 2), o.drop(0, mostGen), o.purge(0, 3), o.purge(0, 1), o.purge(0, 2), o.purge(0, mostGen),
	}
}

// wrongOnes are records that say nothing: bytes that aren't there, are too many, or say what may not be.
func wrongOnes(o own) []api.Entry {
	var out []api.Entry
	tell := func(kind byte, data []byte) { out = append(out, raw(0, kind, data)) }
	for kind := range 7 {
		for size := range 5 {
			tell(byte(kind), make([]byte, size))
			tell(byte(kind), bytes.Repeat([]byte{1}, size))
		}
		tell(byte(kind), nil)
	}
	bind, piece, drop := o.bind(0, 3, "", 50, 6).Data, o.piece(0, 3, 2).Data, o.drop(0, 3).Data
	for size := range bind {
		tell(binds, bind[:size])
	}
	for size := range 8 {
		tell(pieces, piece[:size])
	}
	for size := range drop {
		tell(drops, drop[:size])
		tell(purges, drop[:size])
	}
	long := append(slices.Clip(bind), strings.Repeat("x", 41)...)
	tell(binds, long)
	tell(pieces, append(slices.Clip(piece[:7]), make([]byte, 65)...))
	for _, more := range []byte{0, 1, 255} {
		tell(drops, append(slices.Clip(drop), more))
		tell(purges, append(slices.Clip(drop), more))
	}
	for _, c := range []byte{0, ' ', '"', 127, '\t', '\n'} {
		tell(binds, append(slices.Clip(bind), c))
		tell(binds, append(slices.Clip(bind), 'a', c, 'a'))
	}
	// An object that may not be, and a generation that may not be.
	for _, b := range []api.Entry{raw(0, binds, bind), raw(0, pieces, piece), raw(0, drops, drop), raw(0, purges, drop)} {
		for _, object := range []byte{16, 17, 32, 128, 255} {
			other := bytes.Clone(b.Data)
			other[0] = object
			tell(b.Kind, other)
		}
		for _, gen := range []uint32{0, 1 << 31, 1<<31 + 3, 1<<32 - 1} {
			other := bytes.Clone(b.Data)
			binary.BigEndian.PutUint32(other[1:], gen)
			tell(b.Kind, other)
		}
	}
	// A length, a tick, a slice beyond their bounds.
	out = append(out, o.bind(0, 3, "a", 4097, 6), o.bind(0, 4, "a", 65535, 6), o.bind(0, 3, "a", 50, mostTick+1), o.bind(0, 4, "a", 50, -1), o.bind(0, 4, "a", 50, math.MinInt), o.piece(0, 3, 4097), o.piece(0, 3, 65535))
	return out
}

// TestRecordsByHand: what the tests lay by hand is what codec lays, and what they take for right or wrong codec does.
func TestRecordsByHand(t *testing.T) {
	b, _ := codec.PutBind(api.Bind{Object: 3, Gen: 5, Tag: "v1-0", Length: 300, Tick: 1 << 40})
	p, _ := codec.PutPiece(api.Piece{Object: 3, Gen: 5, Index: 258, Body: []byte{4, 9}})
	d, _ := codec.PutDrop(api.Drop{Object: 3, Gen: 1 << 20})
	o := own(3)
	if !bytes.Equal(b, o.bind(1, 5, "v1-0", 300, 1<<40).Data) || !bytes.Equal(p, o.piece(4, 5, 258).Data) || !bytes.Equal(d, o.drop(1, 1<<20).Data) || !bytes.Equal(d, o.purge(1, 1<<20).Data) {
		t.Fatal(b, p, d)
	}
	if binds != api.KindBind || pieces != api.KindPiece || drops != api.KindDrop || purges != api.KindPurge || heads != api.KindHead {
		t.Fatal("kinds")
	}
	for object := range objects {
		for _, e := range rightOnes(own(object)) {
			if n, is := codec.Object(e.Kind, e.Data); !is || n != object || says(e).kind == 0 || says(e).object != object {
				t.Fatal(show([]api.Entry{e}))
			}
		}
		for _, e := range wrongOnes(own(object)) {
			if _, is := codec.Object(e.Kind, e.Data); is || says(e).kind != 0 {
				t.Fatal(show([]api.Entry{e}))
			}
		}
	}
}

// TestExamples: the chapter's, and ordinary inputs.
func TestExamples(t *testing.T) {
	o := own(1)
	x := replay.All([]api.Entry{o.bind(1, 2, "v1-0", 53, 9), o.piece(2, 2, 5), o.drop(3, 2)})
	if _, is := x.Get(1); is || x.Floor(1) != 2 || len(x.Objects()) != 0 || x.Slices(1).Len() != 0 {
		t.Fatal(look(x, 1))
	}
	if !index.Same(x, index.New().Forget(1, 2, at(3))) {
		t.Fatal(look(x, 1))
	}
	l := []api.Entry{o.piece(1, 2, 7), o.bind(2, 2, "v1-0", 53, 9), o.piece(3, 2, 5), o.drop(4, 1)}
	x = replay.All(l)
	want := index.New().Bound(api.Bind{Object: 1, Gen: 2, Tag: "v1-0", Length: 53, Tick: 9}, at(2)).Piece(1, 2, 5, at(3)).Piece(1, 2, 7, at(1)).Forget(1, 1, at(4))
	if !index.Same(x, want) {
		t.Fatal(look(x, 1))
	}
	for _, e := range l {
		if !replay.Live(x, e) || replay.Live(x, placed(e, 9)) {
			t.Fatal(show([]api.Entry{e}))
		}
	}
	if len(replay.Of(l, 1)) != 4 || len(replay.Of(l, 0)) != 0 || replay.Greatest(l, 1) != 2 || replay.Greatest(l, 0) != 0 {
		t.Fatal(replay.Of(l, 1), replay.Greatest(l, 1))
	}
	if !replay.Within(replay.All(l[1:3]), x) || replay.Within(x, replay.All(l[1:])) {
		t.Fatal("Within")
	}
}

// bases are Indexes that One is called on, each with the row of records behind which it is.
func bases(object int) [][]api.Entry {
	o := own(object)
	return [][]api.Entry{
		nil,
		{o.bind(21, 3, "a", 50, 5)},
		{o.bind(21, 3, "a", 50, 5), o.piece(22, 3, 2), o.piece(23, 3, 0)},
		{o.drop(24, 2)},
		{o.purge(24, 3), o.bind(21, 4, "a", 50, 5), o.piece(22, 4, 2)},
		full(),
	}
}

// TestOneRight: P20.1: One of each right record, at the zero place and at another one, on each object.
func TestOneRight(t *testing.T) {
	for object := range objects {
		for _, base := range bases(object) {
			x := behind(index.New(), base...)
			before := all(x)
			for _, e := range rightOnes(own(object)) {
				for _, n := range []int{0, 1, 77, 1 << 40} {
					e = placed(e, n)
					l := append(slices.Clip(base), e)
					if got, want := all(replay.One(x, e)), papers(l, false); !got.like(want) {
						t.Fatalf("%s:\n%+v, not\n%+v", show(l), got[object], want[object])
					}
				}
			}
			if !all(x).like(before) {
				t.Fatal("One has changed what it was given", object)
			}
		}
	}
}

// TestOneByHand: P20.1, told by the Index's own calls.
func TestOneByHand(t *testing.T) {
	for _, object := range []int{0, 1, 14, 15} {
		o := own(object)
		v := api.Bind{Object: object, Gen: 3, Tag: "a", Length: 50, Tick: 5}
		later, other, next := v, v, v
		later.Tick, other.Tag, next.Gen = 6, "b", 4
		for _, x := range []index.Index{{}, index.New(), index.New().Bound(v, at(1)), index.New().Bound(v, at(1)).Piece(object, 3, 2, at(2)), index.New().Forget(object, 2, at(3)), behind(index.New(), full()...)} {
			for n, at := range []api.Addr{{}, {Segment: 1}, {Page: 1}, {Segment: 15, Page: 63}, {Segment: -1, Page: math.MinInt}, {Segment: math.MaxInt, Page: math.MaxInt}} {
				moved := func(e api.Entry) api.Entry {
					e.At = at
					return e
				}
				for what, pair := range map[string][2]index.Index{
					"bind":        {replay.One(x, moved(o.bind(0, 3, "a", 50, 5))), x.Bound(v, at)},
					"later":       {replay.One(x, moved(o.bind(0, 3, "a", 50, 6))), x.Bound(later, at)},
					"another":     {replay.One(x, moved(o.bind(0, 3, "b", 50, 5))), x.Bound(other, at)},
					"the next":    {replay.One(x, moved(o.bind(0, 4, "a", 50, 5))), x.Bound(next, at)},
					"slice":       {replay.One(x, moved(o.piece(0, 3, 2))), x.Piece(object, 3, 2, at)},
					"last slice":  {replay.One(x, moved(o.piece(0, 3, mostIndex))), x.Piece(object, 3, mostIndex, at)},
					"other slice": {replay.One(x, moved(o.piece(0, 4, 2))), x},
					"drop":        {replay.One(x, moved(o.drop(0, 3))), x.Forget(object, 3, at)},
					"purge":       {replay.One(x, moved(o.purge(0, 3))), x.Forget(object, 3, at)},
					"lower":       {replay.One(x, moved(o.drop(0, 1))), x.Forget(object, 1, at)},
					"lower purge": {replay.One(x, moved(o.purge(0, 2))), x.Forget(object, 2, at)},
				} {
					if !index.Same(pair[0], pair[1]) {
						t.Fatalf("%s at place %d of object %d:\n%+v, not\n%+v", what, n, object, look(pair[0], object), look(pair[1], object))
					}
				}
			}
		}
	}
}

// TestOneWrong: P20.1: what isn't right, and what is of a kind that there isn't, changes nothing; nor is it Live.
func TestOneWrong(t *testing.T) {
	for object := range objects {
		var l []api.Entry
		for _, e := range wrongOnes(own(object)) {
			l = append(l, e, placed(e, 21), placed(e, 200+object))
		}
		for _, e := range rightOnes(own(object)) {
			for kind := range 256 {
				other := raw(200+object, byte(kind), e.Data)
				if says(other).kind == 0 {
					l = append(l, other)
				}
			}
		}
		for _, base := range bases(object) {
			x := behind(index.New(), base...)
			for _, e := range l {
				if !index.Same(replay.One(x, e), x) {
					t.Fatal(show([]api.Entry{e}))
				}
				if replay.Live(x, e) {
					t.Fatal("Live:", show([]api.Entry{e}))
				}
			}
			if !index.Same(behind(x, l...), x) {
				t.Fatal(object)
			}
		}
		if !index.Same(replay.All(l), index.New()) || !index.Same(replay.All(slices.Concat(l, full(), l)), replay.All(full())) {
			t.Fatal("All", object)
		}
		for _, other := range edges() {
			if replay.Greatest(l, other) != 0 || len(replay.Of(l, other)) != 0 {
				t.Fatal("Of", object, other)
			}
		}
	}
}

// TestOneKinds: P20.1: the same bytes, by each kind of record.
func TestOneKinds(t *testing.T) {
	o := own(6)
	bind, piece, drop := o.bind(0, 4, "a", 50, 6).Data, o.piece(0, 3, 2).Data, o.drop(0, 3).Data
	x := index.New().Bound(api.Bind{Object: 6, Gen: 3, Tag: "a"}, at(1))
	for kind := range 256 {
		for _, data := range [][]byte{bind, piece, drop, nil, {}} {
			want := x
			switch {
			case kind == binds && len(data) == len(bind):
				want = x.Bound(api.Bind{Object: 6, Gen: 4, Tag: "a", Length: 50, Tick: 6}, at(9))
			case kind == pieces && len(data) == len(piece):
				want = x.Piece(6, 3, 2, at(9))
			case kind == pieces && len(data) == len(bind):
				// The bytes of a bind are, by chance, those of a slice of another generation.
				want = x.Piece(6, 4, 50, at(9))
			case (kind == drops || kind == purges) && len(data) == len(drop):
				want = x.Forget(6, 3, at(9))
			}
			if got := replay.One(x, raw(9, byte(kind), data)); !index.Same(got, want) {
				t.Fatalf("kind %d, % x: %+v, not %+v", kind, data, look(got, 6), look(want, 6))
			}
		}
	}
}

// play is a row of records of one object, and what is told of it behind all of them.
type play struct {
	l    []api.Entry
	want told
}

// plays: P20.1 of All, told by hand.
func plays(o own) []play {
	none := told{}
	bind := o.bind(1, 2, "a", 50, 5)
	tied := o.tied(1, 2, "a", 50, 5)
	return []play{
		{nil, none},
		{[]api.Entry{}, none},
		// One record.
		{[]api.Entry{bind}, tied},
		{[]api.Entry{o.piece(1, 2, 3)}, none},
		{[]api.Entry{o.drop(1, 2)}, none.above(1, 2)},
		{[]api.Entry{o.purge(1, 2)}, none.above(1, 2)},
		{[]api.Entry{{}}, none},
		{[]api.Entry{raw(0, heads, nil)}, none},
		{[]api.Entry{raw(0, 9, bind.Data)}, none},
		{[]api.Entry{placed(bind, 0)}, o.tied(0, 2, "a", 50, 5)},
		// Slices ahead of their bind, between, behind.
		{[]api.Entry{o.piece(2, 2, 3), bind}, tied.with(3, 2)},
		{[]api.Entry{bind, o.piece(2, 2, 3)}, tied.with(3, 2)},
		{[]api.Entry{o.piece(2, 2, 3), bind, o.piece(3, 2, 0)}, tied.with(0, 3, 3, 2)},
		{[]api.Entry{o.piece(2, 2, 3), o.piece(3, 2, mostIndex), bind, o.piece(4, 2, 1)}, tied.with(1, 4, 3, 2, mostIndex, 3)},
		{[]api.Entry{o.drop(9, 1), o.piece(2, 2, 3), bind, o.drop(8, 1), o.piece(3, 2, 0)}, tied.with(0, 3, 3, 2).above(8, 1)},
		{[]api.Entry{o.bind(7, 1, "b", 5, 5), o.piece(2, 2, 3), o.piece(3, 1, 4), bind, o.piece(4, 1, 5)}, tied.with(3, 2)},
		{[]api.Entry{bind, o.piece(2, 2, 3), o.bind(7, 2, "a", 50, 6), o.piece(3, 2, 4)}, o.tied(7, 2, "a", 50, 6).with(3, 2, 4, 3)},
		// A slice whose bind never comes.
		{[]api.Entry{o.piece(2, 3, 3), bind}, tied},
		{[]api.Entry{bind, o.piece(2, 1, 3), o.piece(3, 3, 3)}, tied},
		{[]api.Entry{o.piece(2, 2, 3), o.drop(3, 1)}, none.above(3, 1)},
		{[]api.Entry{o.piece(2, 2, 3), (o + 1).bind(1, 2, "a", 50, 5)}, none},
		// A slice whose generation is gone: behind its drop, between, ahead.
		{[]api.Entry{bind, o.drop(3, 2), o.piece(2, 2, 3)}, none.above(3, 2)},
		{[]api.Entry{bind, o.piece(2, 2, 3), o.drop(3, 2)}, none.above(3, 2)},
		{[]api.Entry{o.piece(2, 2, 3), bind, o.purge(3, 2)}, none.above(3, 2)},
		{[]api.Entry{o.piece(2, 2, 3), bind, o.drop(3, 2), o.bind(4, 3, "b", 5, 5), o.piece(5, 3, 1), o.piece(6, 2, 0)}, o.tied(4, 3, "b", 5, 5).with(1, 5).above(3, 2)},
		{[]api.Entry{bind, o.piece(2, 2, 3), o.bind(4, 3, "b", 5, 5), o.piece(5, 2, 1)}, o.tied(4, 3, "b", 5, 5)},
		{[]api.Entry{o.drop(3, 2), bind, o.piece(2, 2, 3)}, none.above(3, 2)},
		// One slice twice, at two places.
		{[]api.Entry{bind, o.piece(2, 2, 3), o.piece(3, 2, 3)}, tied.with(3, 3)},
		{[]api.Entry{o.piece(3, 2, 3), bind, o.piece(2, 2, 3)}, tied.with(3, 2)},
		{[]api.Entry{o.piece(3, 2, 3), o.piece(2, 2, 3), bind}, tied.with(3, 2)},
		{[]api.Entry{o.piece(3, 2, 3), bind, o.piece(2, 2, 3), o.piece(4, 1, 3), o.piece(5, 3, 3)}, tied.with(3, 2)},
		// All that isn't a slice counts as it stands.
		{[]api.Entry{bind, o.bind(2, 2, "a", 50, 4)}, tied},
		{[]api.Entry{bind, o.bind(2, 2, "b", 50, 6)}, tied},
		{[]api.Entry{bind, o.bind(2, 2, "a", 51, 6)}, tied},
		{[]api.Entry{bind, o.bind(2, 2, "a", 50, 5)}, o.tied(2, 2, "a", 50, 5)},
		{[]api.Entry{bind, o.bind(2, 1, "a", 50, 9)}, tied},
		{[]api.Entry{o.bind(2, 2, "b", 50, 6), bind}, o.tied(2, 2, "b", 50, 6)},
		{[]api.Entry{bind, o.drop(2, 1), o.drop(3, 1)}, tied.above(3, 1)},
		{[]api.Entry{o.purge(2, 1), bind, o.drop(3, 1)}, tied.above(3, 1)},
		{[]api.Entry{o.drop(2, 4), o.purge(3, 5), o.drop(4, 4)}, none.above(3, 5)},
	}
}

// TestAllByHand: P20.1 of All on each object.
func TestAllByHand(t *testing.T) {
	for object := range objects - 1 {
		o := own(object)
		for _, p := range plays(o) {
			x := replay.All(p.l)
			if got := look(x, object); !got.like(p.want) {
				t.Fatalf("%s:\n%+v, not\n%+v", show(p.l), got, p.want)
			}
			if !all(x).like(papers(p.l, true)) {
				t.Fatalf("%s: the paper tells otherwise", show(p.l))
			}
			// Beside others nothing of it is other than alone.
			others := slices.DeleteFunc(full(), func(e api.Entry) bool { return says(e).object >= object })
			if got := look(replay.All(slices.Concat(others, p.l, others)), object); !got.like(p.want) {
				t.Fatalf("%s, beside others:\n%+v, not\n%+v", show(p.l), got, p.want)
			}
		}
	}
	if !all(replay.All(full())).like(papers(full(), true)) || len(replay.All(full()).Objects()) != objects {
		t.Fatal("a full one")
	}
}

// TestAllIsOneByOne: P20.1: All is One by one, the slices behind all others.
func TestAllIsOneByOne(t *testing.T) {
	d := dice(2463534242)
	for range 300 {
		l := d.row(40)
		var rest, slicesOf []api.Entry
		for _, e := range l {
			if e.Kind == pieces {
				slicesOf = append(slicesOf, e)
			} else {
				rest = append(rest, e)
			}
		}
		if !index.Same(replay.All(l), behind(index.New(), append(rest, slicesOf...)...)) {
			t.Fatal(show(l))
		}
	}
}

// liveCase is a record, and whether an Index needs it.
type liveCase struct {
	what string
	e    api.Entry
	want bool
}

// TestLiveByHand: P20.2 of Live.
func TestLiveByHand(t *testing.T) {
	for object := range objects {
		o, other := own(object), own((object+1)%objects)
		x := replay.All([]api.Entry{o.drop(1, 1), o.drop(2, 3), o.purge(3, 3), o.bind(4, 5, "a", 50, 5), o.bind(5, 5, "a", 50, 6), o.piece(6, 5, 0), o.piece(7, 5, 1), o.piece(8, 5, 1), o.piece(9, 4, 2), o.bind(10, 4, "b", 5, 5), o.drop(11, 2)})
		for _, c := range []liveCase{
			{"the bind", o.bind(5, 5, "a", 50, 6), true},
			{"the bind elsewhere", o.bind(4, 5, "a", 50, 6), false},
			{"the bind at the zero place", o.bind(0, 5, "a", 50, 6), false},
			{"the bind that was renewed", o.bind(4, 5, "a", 50, 5), false},
			{"the bind that was renewed, where the new one is", o.bind(5, 5, "a", 50, 5), false},
			{"a bind of another tag there", o.bind(5, 5, "b", 50, 6), false},
			{"a bind of another length there", o.bind(5, 5, "a", 51, 6), false},
			{"a bind of a lower generation", o.bind(10, 4, "b", 5, 5), false},
			{"a bind of a lower generation there", o.bind(5, 4, "a", 50, 6), false},
			{"a bind of a greater generation there", o.bind(5, 6, "a", 50, 6), false},
			{"the bind of another object there", other.bind(5, 5, "a", 50, 6), false},
			{"a slice", o.piece(6, 5, 0), true},
			{"a slice elsewhere", o.piece(7, 5, 0), false},
			{"a slice at the zero place", o.piece(0, 5, 0), false},
			{"a slice that came again", o.piece(8, 5, 1), true},
			{"the one that it came behind", o.piece(7, 5, 1), false},
			{"a slice of another generation", o.piece(9, 4, 2), false},
			{"a slice of a lower generation there", o.piece(6, 4, 0), false},
			{"a slice of a greater generation there", o.piece(6, 6, 0), false},
			{"a slice that isn't there", o.piece(6, 5, 2), false},
			{"a slice that isn't there, at the zero place", o.piece(0, 5, 2), false},
			{"a slice of another object there", other.piece(6, 5, 0), false},
			{"the floor's", o.purge(3, 3), true},
			{"the floor's, as a drop", o.drop(3, 3), true},
			{"the floor's, that it came behind", o.drop(2, 3), false},
			{"the floor's elsewhere", o.purge(4, 3), false},
			{"the floor's at the zero place", o.drop(0, 3), false},
			{"a lower floor's", o.drop(1, 1), false},
			{"a lower floor's there", o.drop(3, 2), false},
			{"a floor's that came later, and is lower", o.drop(11, 2), false},
			{"a greater floor's there", o.drop(3, 4), false},
			{"a floor's of the bind's generation there", o.drop(3, 5), false},
			{"a floor's at the bind's place", o.drop(5, 5), false},
			{"another object's floor there", other.drop(3, 3), false},
			{"a purge of another object", other.purge(3, 3), false},
			{"nothing", raw(5, heads, nil), false},
			{"nothing of a kind", raw(5, 9, o.bind(5, 5, "a", 50, 6).Data), false},
			{"a bind cut short", raw(5, binds, o.bind(5, 5, "a", 50, 6).Data[:14]), false},
			{"a slice cut short", raw(6, pieces, o.piece(6, 5, 0).Data[:7]), false},
			{"a floor's with a byte more", raw(3, drops, append(o.drop(3, 3).Data, 0)), false},
			{"a floor's as a bind", raw(3, binds, o.drop(3, 3).Data), false},
			{"a floor's cut short", raw(3, purges, o.drop(3, 3).Data[:4]), false},
		} {
			if got := replay.Live(x, c.e); got != c.want || needed(all(x), c.e) != c.want {
				t.Fatalf("object %d: %s: %v", object, c.what, got)
			}
			// How it was laid plays no part: just what it says, and its place.
			c.e.Seq, c.e.Pages = math.MaxUint64, -1
			if got := replay.Live(x, c.e); got != c.want {
				t.Fatalf("object %d: %s, laid otherwise: %v", object, c.what, got)
			}
		}
	}
}

// TestLivePlace: P20.2: a place is a segment and a page, both of them.
func TestLivePlace(t *testing.T) {
	o := own(4)
	places := []api.Addr{{}, {Page: 1}, {Segment: 1}, {Segment: 1, Page: 1}, {Segment: 15, Page: 63}, {Segment: 63, Page: 15}, {Segment: -1, Page: 1}, {Segment: math.MaxInt, Page: math.MinInt}}
	for _, here := range places {
		moved := func(e api.Entry, at api.Addr) api.Entry {
			e.At = at
			return e
		}
		x := replay.All([]api.Entry{moved(o.bind(0, 4, "a", 50, 5), here), moved(o.piece(0, 4, 0), here), moved(o.drop(0, 3), here)})
		for _, there := range places {
			for _, e := range []api.Entry{o.bind(0, 4, "a", 50, 5), o.piece(0, 4, 0), o.drop(0, 3)} {
				if got := replay.Live(x, moved(e, there)); got != (here == there) {
					t.Fatalf("%s: Live at %v: %v", show([]api.Entry{moved(e, here)}), there, got)
				}
			}
		}
	}
}

// TestLiveNothing: P20.2: of an Index that has nothing of an object no record is Live, the zero place not left out.
func TestLiveNothing(t *testing.T) {
	for object := range objects {
		o := own(object)
		others := slices.DeleteFunc(full(), func(e api.Entry) bool { return says(e).object == object })
		for _, x := range []index.Index{{}, index.New(), replay.All(others)} {
			for _, e := range slices.Concat(rightOnes(o), wrongOnes(o)) {
				for _, n := range []int{0, 1, 200 + object, 200} {
					if replay.Live(x, placed(e, n)) {
						t.Fatal(show([]api.Entry{e}))
					}
				}
			}
		}
		// A bind and no floor; a floor and no bind.
		x, y := index.New().Bind(api.Bind{Object: object, Gen: 1}), index.New().Drop(object, 1)
		for _, c := range []struct {
			e    api.Entry
			x, y bool
		}{{o.bind(0, 1, "", 0, 0), true, false}, {o.bind(0, 1, "", 0, 1), false, false}, {o.drop(0, 1), false, true}, {o.purge(0, 1), false, true}, {o.piece(0, 1, 0), false, false}} {
			if replay.Live(x, c.e) != c.x || replay.Live(y, c.e) != c.y {
				t.Fatal(show([]api.Entry{c.e}))
			}
		}
	}
}

// TestLivePieces: P20.2: each slice that a bind may have is Live at its place, beside all others.
func TestLivePieces(t *testing.T) {
	o := own(9)
	l := []api.Entry{o.bind(1, 2, "a", 4096, 0)}
	for k, i := range []int{0, 1, 2, 62, 63, 64, 65, 127, 128, 255, 256, 4032, 4095, 4096} {
		l = append(l, o.piece(2+k, 2, i))
	}
	x := replay.All(l)
	for _, e := range l {
		for _, f := range l {
			f.At = e.At
			if got := replay.Live(x, f); got != (says(e) == says(f)) {
				t.Fatal(show([]api.Entry{e, f}), got)
			}
		}
	}
}

// TestOf: P20.2 of Of: the records of an object, whole and in their order.
func TestOf(t *testing.T) {
	var l []api.Entry
	for object := range objects {
		l = append(l, rightOnes(own(object))...)
		l = append(l, wrongOnes(own(object))...)
		l = append(l, raw(5, heads, nil), api.Entry{})
	}
	l = apart(l)
	for _, row := range [][]api.Entry{nil, {}, l, l[:1], l[40:], {l[0], l[0]}, slices.Concat(l, l)} {
		for _, object := range edges() {
			var want []api.Entry
			for _, e := range row {
				if s := says(e); s.kind != 0 && s.object == object {
					want = append(want, e)
				}
			}
			got := replay.Of(row, object)
			if !slices.EqualFunc(got, want, likeEntry) {
				t.Fatalf("Of object %d: %s, not %s", object, show(got), show(want))
			}
		}
	}
	if len(replay.Of(l, 3)) != len(rightOnes(3)) {
		t.Fatal("none")
	}
}

// TestOfByHand: P20.2 of Of, of few records.
func TestOfByHand(t *testing.T) {
	l := []api.Entry{own(0).drop(9, 4), own(2).bind(1, 1, "a", 5, 5), own(0).piece(3, 1, 2), raw(4, drops, []byte{0, 0}), own(2).purge(2, 7), raw(5, heads, []byte{2}), own(15).bind(7, 1, "", 0, 0)}
	for object, want := range map[int][]int{0: {0, 2}, 1: {}, 2: {1, 4}, 14: {}, 15: {6}, 16: {}, -1: {}, 256: {}, math.MaxInt: {}, math.MinInt: {}} {
		got := replay.Of(l, object)
		if len(got) != len(want) {
			t.Fatalf("Of %d: %s", object, show(got))
		}
		for n, k := range want {
			if !likeEntry(got[n], l[k]) {
				t.Fatalf("Of %d: %s", object, show(got))
			}
		}
	}
}

func likeEntry(a, b api.Entry) bool {
	return a.At == b.At && a.Seq == b.Seq && a.Pages == b.Pages && a.Kind == b.Kind && bytes.Equal(a.Data, b.Data)
}

// TestGreatest: P20.2 of Greatest.
func TestGreatest(t *testing.T) {
	for object := range objects {
		o, other := own(object), own((object+3)%objects)
		for _, c := range []struct {
			what string
			l    []api.Entry
			want int
		}{
			{"nothing", nil, 0},
			{"no records", []api.Entry{}, 0},
			{"a bind", []api.Entry{o.bind(1, 4, "a", 5, 5)}, 4},
			{"binds", []api.Entry{o.bind(1, 4, "a", 5, 5), o.bind(2, 6, "a", 5, 5), o.bind(3, 5, "a", 5, 5)}, 6},
			{"a slice", []api.Entry{o.piece(1, 3, 9)}, 3},
			{"slices", []api.Entry{o.piece(1, 300, 9), o.piece(2, 299, 400)}, 300},
			{"a drop", []api.Entry{o.drop(1, 2)}, 2},
			{"drops", []api.Entry{o.drop(1, 1), o.drop(1, 2)}, 2},
			{"a purge", []api.Entry{o.purge(1, 7)}, 7},
			{"drops and purges", []api.Entry{o.drop(1, 8), o.purge(1, 7), o.purge(1, 9), o.drop(1, 3)}, 9},
			{"a slice above a bind", []api.Entry{o.bind(1, 4, "a", 5, 5), o.piece(2, 5, 0)}, 5},
			{"a drop above both", []api.Entry{o.bind(1, 4, "a", 5, 5), o.piece(2, 5, 0), o.drop(3, 6)}, 6},
			{"a bind above what is gone", []api.Entry{o.drop(3, 6), o.bind(1, 7, "a", 5, 5), o.piece(2, 5, 0)}, 7},
			{"the lowest", []api.Entry{o.piece(1, 1, 0)}, 1},
			{"the greatest", []api.Entry{o.bind(1, mostGen-1, "a", 5, 5), o.drop(1, mostGen)}, mostGen},
			{"others' records", []api.Entry{other.bind(1, 4, "a", 5, 5), other.piece(1, 6, 5), other.drop(1, 9), other.purge(1, 8)}, 0},
			{"beside others' records", []api.Entry{other.bind(1, 4, "a", 5, 5), o.piece(1, 2, 5), other.drop(1, 9)}, 2},
			{"what says nothing", []api.Entry{o.bind(1, 9, "a b", 5, 5), o.piece(1, 9, 4097), raw(1, drops, append(o.drop(1, 9).Data, 0)), raw(1, purges, o.drop(1, 9).Data[:4]), raw(1, 6, o.drop(1, 9).Data), {}}, 0},
			{"beside what says nothing", []api.Entry{o.bind(1, 9, "a b", 5, 5), o.piece(1, 3, 9), o.drop(1, mostGen+2)}, 3},
		} {
			if got := replay.Greatest(c.l, object); got != c.want {
				t.Fatalf("object %d, %s: %d, not %d", object, c.what, got, c.want)
			}
			for _, wrong := range edges() {
				if (wrong < 0 || wrong >= objects) && replay.Greatest(c.l, wrong) != 0 {
					t.Fatal(wrong, c.what)
				}
			}
		}
	}
}

// pair are two rows of records, and whether the Index behind the first one is Within that behind the second one.
type pair struct {
	what string
	a, b []api.Entry
	want bool
}

// pairs: P20.3, told by hand.
func pairs(o own) []pair {
	join := func(l ...api.Entry) []api.Entry { return l }
	bind := o.bind(1, 4, "a", 50, 5)
	zero, one := o.piece(2, 4, 0), o.piece(3, 4, 1)
	below, under, above := o.drop(4, 2), o.drop(5, 3), o.drop(6, 4)
	return []pair{
		{"nothing", nil, nil, true},
		{"nothing, and a bind", nil, join(bind), true},
		{"a bind, and nothing", join(bind), nil, false},
		{"the same", join(bind, zero, one, under), join(bind, zero, one, under), true},
		{"a bind, and a bind", join(bind), join(bind), true},
		{"elsewhere", join(bind, zero, under), join(o.bind(9, 4, "a", 50, 5), o.piece(8, 4, 0), o.purge(7, 3)), true},
		{"less tick", join(o.bind(1, 4, "a", 50, 4)), join(bind), true},
		{"the least tick", join(o.bind(1, 4, "a", 50, 0)), join(o.bind(1, 4, "a", 50, mostTick)), true},
		{"greater tick", join(o.bind(1, 4, "a", 50, 6)), join(bind), false},
		{"the greatest tick", join(o.bind(1, 4, "a", 50, mostTick)), join(o.bind(1, 4, "a", 50, mostTick-1)), false},
		{"lower gen", join(o.bind(1, 3, "a", 50, 5)), join(bind), false},
		{"greater gen", join(o.bind(1, 5, "a", 50, 5)), join(bind), false},
		{"another tag", join(o.bind(1, 4, "b", 50, 5)), join(bind), false},
		{"no tag", join(o.bind(1, 4, "", 50, 5)), join(bind), false},
		{"another length", join(o.bind(1, 4, "a", 49, 5)), join(bind), false},
		{"a greater length", join(o.bind(1, 4, "a", 51, 4)), join(bind), false},
		{"another object's bind", join(bind), join((o + 1).bind(1, 4, "a", 50, 5)), false},
		{"another object's bind, too", join(bind), join((o+1).bind(1, 4, "a", 50, 5), bind), true},
		{"more binds", join(bind, (o+1).bind(7, 1, "", 0, 0)), join(bind), false},
		{"a slice of two", join(bind, zero), join(bind, one, zero), true},
		{"no slice of two", join(bind), join(bind, one, zero), true},
		{"two slices, and one", join(bind, one, zero), join(bind, one), false},
		{"two slices, and the other one", join(bind, one, zero), join(bind, zero), false},
		{"a slice, and none", join(bind, zero), join(bind), false},
		{"another slice", join(bind, zero), join(bind, one), false},
		{"the last slice", join(bind, o.piece(2, 4, mostIndex)), join(bind, o.piece(2, 4, mostIndex-1)), false},
		{"the last slice, too", join(bind, o.piece(2, 4, mostIndex)), join(bind, o.piece(3, 4, mostIndex), zero), true},
		{"a slice of another gen", join(bind, zero), join(o.bind(1, 5, "a", 50, 5), o.piece(2, 5, 0)), false},
		{"a slice, less tick", join(o.bind(1, 4, "a", 50, 3), zero), join(bind, zero), true},
		{"a slice, greater tick", join(o.bind(1, 4, "a", 50, 7), zero), join(bind, zero, one), false},
		{"no floor, and one", join(bind), join(bind, below), true},
		{"a floor, and none", join(bind, below), join(bind), false},
		{"a floor alone, and none", join(below), nil, false},
		{"a floor alone, and a bind above", join(below), join(bind), false},
		{"the same floor", join(bind, under), join(bind, under), true},
		{"the same floor alone", join(under), join(o.purge(9, 3)), true},
		{"a lower floor", join(bind, below), join(bind, under), true},
		{"a greater floor", join(bind, under), join(bind, below), false},
		{"a lower floor alone", join(below), join(above), true},
		{"a greater floor alone", join(above), join(under), false},
		{"a floor of another object", join(below), join((o + 1).drop(4, 2)), false},
		{"a bind, and its floor", join(bind), join(above), false},
		{"a floor, and what was ahead of it", join(bind, above), join(bind), false},
		{"a floor, and what is above it", join(below), join(under, bind, zero), true},
	}
}

// TestWithinByHand: P20.3 on each object, alone and beside others.
func TestWithinByHand(t *testing.T) {
	for object := range objects - 1 {
		others := slices.DeleteFunc(full(), func(e api.Entry) bool { return says(e).object/2 == object/2 || says(e).object/2 == (object+1)/2 })
		for _, p := range pairs(own(object)) {
			for _, beside := range [][]api.Entry{nil, others} {
				a, b := replay.All(slices.Concat(beside, p.a)), replay.All(slices.Concat(p.b, beside))
				if got := replay.Within(a, b); got != p.want || inside(all(a), all(b)) != p.want {
					t.Fatalf("object %d: %s: %v", object, p.what, got)
				}
				if !replay.Within(a, a) || !replay.Within(b, b) || !replay.Within(index.Index{}, a) {
					t.Fatalf("object %d: %s: not Within itself", object, p.what)
				}
			}
		}
		// What one of two has not, the other one can't make good.
		if replay.Within(replay.All(full()), replay.All(others)) || !replay.Within(replay.All(others), replay.All(full())) {
			t.Fatal("a full one", object)
		}
	}
	last := own(15)
	for _, e := range []api.Entry{last.bind(1, 1, "", 0, 0), last.drop(1, 1)} {
		if replay.Within(replay.All([]api.Entry{e}), index.New()) || !replay.Within(index.New(), replay.All([]api.Entry{e})) {
			t.Fatal("the last object")
		}
	}
	// Numbers that no record has, but an Index may.
	x := index.New().Bind(api.Bind{Object: 1, Gen: math.MaxInt, Length: -1, Tick: math.MinInt})
	y := index.New().Bind(api.Bind{Object: 1, Gen: math.MaxInt, Length: -1, Tick: math.MaxInt})
	if !replay.Within(x, y) || replay.Within(y, x) {
		t.Fatal("any numbers")
	}
}

// TestWithinPairs: P20.3, of all pairs of many Indexes.
func TestWithinPairs(t *testing.T) {
	o := own(3)
	rows := [][]api.Entry{nil, {own(4).bind(1, 1, "", 0, 0), own(15).drop(1, 1)}}
	for _, base := range rows[:2:2] {
		for _, bind := range [][]api.Entry{nil, {o.bind(1, 3, "a", 5, 5)}, {o.bind(2, 3, "a", 5, 6)}, {o.bind(1, 3, "b", 5, 5)}, {o.bind(1, 3, "a", 6, 5)}, {o.bind(1, 4, "a", 5, 5)}} {
			for _, floor := range [][]api.Entry{nil, {o.drop(3, 1)}, {o.purge(4, 2)}, {o.drop(3, 3)}, {o.drop(3, 4)}} {
				for _, there := range [][]api.Entry{nil, {o.piece(5, 3, 0)}, {o.piece(6, 3, 1), o.piece(5, 3, 0)}, {o.piece(5, 3, 1)}, {o.piece(5, 4, 0)}, {o.piece(5, 3, mostIndex), o.piece(5, 4, 0), o.piece(5, 4, 7)}} {
					rows = append(rows, slices.Concat(base, bind, floor, there))
				}
			}
		}
	}
	var xs []index.Index
	var ls []everything
	for _, row := range rows {
		xs = append(xs, replay.All(row))
		ls = append(ls, papers(row, true))
	}
	within := 0
	for k := range xs {
		for j := range xs {
			want := inside(ls[k], ls[j])
			if got := replay.Within(xs[k], xs[j]); got != want {
				t.Fatalf("Within %v: %s in %s", got, show(rows[k]), show(rows[j]))
			}
			if want {
				within++
			}
		}
	}
	if within <= len(xs) || within == len(xs)*len(xs) {
		t.Fatal("the pairs are of one kind")
	}
}

// live are the records that an Index needs.
func live(x index.Index, l []api.Entry) []api.Entry {
	var out []api.Entry
	for _, e := range l {
		if replay.Live(x, e) {
			out = append(out, e)
		}
	}
	return out
}

// rowHolds: P20.1, P20.2 and P20.4 of a row of records that are each at a place of its own.
func rowHolds(t *testing.T, l []api.Entry) {
	t.Helper()
	x := replay.All(l)
	want := papers(l, true)
	if !all(x).like(want) {
		t.Fatalf("%s:\n%+v, not\n%+v", show(l), all(x), want)
	}
	many := 0
	for _, a := range want {
		many += len(a.slices)
		if a.is {
			many++
		}
		if a.buried {
			many++
		}
	}
	need := live(x, l)
	for _, e := range l {
		if got := replay.Live(x, e); got != needed(want, e) {
			t.Fatalf("%s: Live of %s: %v", show(l), show([]api.Entry{e}), got)
		}
	}
	if len(need) != many {
		t.Fatalf("%s: %d are Live, not %d", show(l), len(need), many)
	}
	if y := replay.All(need); !index.Same(x, y) || !index.Same(y, x) {
		t.Fatalf("%s: those that are Live alone tell %+v, not %+v", show(l), all(y), want)
	}
	if len(live(x, need)) != many {
		t.Fatalf("%s: what was needed isn't any more", show(l))
	}
}

// few are records of one object near each other.
func few(o own) []api.Entry {
	return []api.Entry{
		o.bind(0, 1, "a", 5, 5), o.bind(0, 2, "a", 5, 5), o.bind(0, 2, "a", 5, 6), o.bind(0, 2, "b", 5, 7), o.bind(0, 3, "a", 5, 4),
		o.piece(0, 1, 0), o.piece(0, 2, 0), o.piece(0, 2, 1), o.piece(0, 3, 0),
		o.drop(0, 1), o.drop(0, 2), o.purge(0, 2), raw(0, heads, nil),
	}
}

// TestRows: P20.1, P20.2 and P20.4, of all rows of four records.
func TestRows(t *testing.T) {
	const object = 11
	deeds := few(object)
	var walk func(l []api.Entry, x index.Index)
	walk = func(l []api.Entry, x index.Index) {
		rowHolds(t, l)
		if got, want := look(x, object), paper(l, object, false); !got.like(want) {
			t.Fatalf("One by one, %s:\n%+v, not\n%+v", show(l), got, want)
		}
		gen := 0
		for _, e := range l {
			gen = max(gen, says(e).bind.Gen)
		}
		if got := replay.Greatest(l, object); got != gen {
			t.Fatalf("Greatest %d, not %d: %s", got, gen, show(l))
		}
		if len(l) == 4 {
			return
		}
		for _, e := range deeds {
			e = placed(e, 1+len(l))
			walk(append(slices.Clip(l), e), replay.One(x, e))
		}
	}
	walk(nil, index.New())
}

// dice are numbers without a short rule in them, the same each time.
type dice uint64

func (d *dice) roll(n int) int {
	x := uint64(*d)
	x ^= x << 13
	x ^= x >> 7
	x ^= x << 17
	*d = dice(x)
	return int((x >> 11) % uint64(n))
}

// pick is one of a list.
func pick[T any](d *dice, l []T) T { return l[d.roll(len(l))] }

// record is any one, of objects and generations near each other.
func (d *dice) record(n int) api.Entry {
	o := own(pick(d, []int{0, 0, 0, 1, 1, 15, d.roll(objects)}))
	gen := 1 + d.roll(6)
	switch d.roll(12) {
	case 0, 1:
		return o.bind(n, gen, pick(d, []string{"a", "a", "a", "b", ""}), 5+d.roll(6)/5, d.roll(8))
	case 2:
		return o.drop(n, 1+d.roll(gen))
	case 3:
		return o.purge(n, 1+d.roll(gen))
	case 4:
		return placed(pick(d, slices.Concat(rightOnes(o), wrongOnes(o))), n)
	case 5:
		data := make([]byte, d.roll(30))
		for k := range data {
			data[k] = byte(pick(d, []int{0, 0, 0, 1, 2, d.roll(256)}))
		}
		return raw(n, byte(d.roll(8)), data)
	}
	return o.piece(n, gen, pick(d, []int{0, 1, 2, 3, 64, mostIndex}))
}

// row is some records, each at a place of its own.
func (d *dice) row(most int) []api.Entry {
	var l []api.Entry
	for n := range d.roll(most) {
		l = append(l, d.record(1+n))
	}
	return l
}

// TestPlays: P20.1, P20.2 and P20.4 in long rows on all objects; each Index on the way tells at the end what it told.
func TestPlays(t *testing.T) {
	d := dice(88172645463325252)
	for range 150 {
		l := d.row(80)
		rowHolds(t, l)
		xs := []index.Index{{}}
		for n, e := range l {
			xs = append(xs, replay.One(xs[n], e))
		}
		for n := range xs {
			if got, want := all(xs[n]), papers(l[:n], false); !got.like(want) {
				t.Fatalf("%s:\n%+v, not\n%+v", show(l[:n]), got, want)
			}
		}
		for range 40 {
			n, e := d.roll(len(xs)), d.record(1+d.roll(60))
			if got := replay.Live(xs[n], e); got != needed(papers(l[:n], false), e) {
				t.Fatalf("%s: Live of %s: %v", show(l[:n]), show([]api.Entry{e}), got)
			}
			m := d.roll(len(xs))
			if got, want := replay.Within(xs[n], xs[m]), inside(papers(l[:n], false), papers(l[:m], false)); got != want {
				t.Fatalf("%s, %d in %d: Within %v", show(l), n, m, got)
			}
		}
	}
}

// TestSamePlaces: P20.1 and P20.2 where records stand at one place: each is still what its words say.
func TestSamePlaces(t *testing.T) {
	d := dice(362436069)
	for range 300 {
		l := d.row(40)
		for n := range l {
			l[n].At = at(d.roll(3))
		}
		x, want := replay.All(l), papers(l, true)
		if !all(x).like(want) {
			t.Fatal(show(l))
		}
		for _, e := range l {
			if got := replay.Live(x, e); got != needed(want, e) {
				t.Fatalf("%s: Live of %s: %v", show(l), show([]api.Entry{e}), got)
			}
		}
	}
}

// parted are the records that aren't slices, and those of each slice, each in its order.
func parted(l []api.Entry) [][]api.Entry {
	out := [][]api.Entry{nil}
	rows := map[said]int{}
	for _, e := range l {
		s := says(e)
		if s.kind != pieces {
			out[0] = append(out[0], e)
			continue
		}
		k, is := rows[s]
		if !is {
			k = len(out)
			rows[s] = k
			out = append(out, nil)
		}
		out[k] = append(out[k], e)
	}
	return out
}

// merged tells each way in which rows can be laid one among the other, each in its order.
func merged(rows [][]api.Entry, tell func([]api.Entry)) {
	var walk func(left [][]api.Entry, out []api.Entry)
	walk = func(left [][]api.Entry, out []api.Entry) {
		over := true
		for k, row := range left {
			if len(row) == 0 {
				continue
			}
			over = false
			next := slices.Clone(left)
			next[k] = row[1:]
			walk(next, append(slices.Clip(out), row[0]))
		}
		if over {
			tell(out)
		}
	}
	walk(rows, nil)
}

// TestWhereSlicesStand: P20.4: where slices stand among the records plays no part, as long as those of one slice stay in order.
func TestWhereSlicesStand(t *testing.T) {
	o := own(7)
	l := []api.Entry{
		o.bind(1, 2, "a", 5, 5), o.piece(2, 2, 0), o.piece(3, 2, 0), o.drop(4, 1), o.piece(5, 2, 1), o.bind(6, 2, "a", 5, 6), o.piece(7, 1, 0), o.piece(8, 3, 0),
	}
	x := replay.All(l)
	if got := look(x, 7); !got.like(o.tied(6, 2, "a", 5, 6).with(0, 3, 1, 5).above(4, 1)) {
		t.Fatal(got)
	}
	ways := 0
	merged(parted(l), func(row []api.Entry) {
		if y := replay.All(row); !index.Same(x, y) {
			t.Fatal(show(row))
		}
		rowHolds(t, row)
		ways++
	})
	if ways != 8*7*6*5*4*3*2/(3*2)/2 {
		t.Fatal(ways)
	}
	// Long rows, thrown together by dice.
	d := dice(521288629)
	for range 100 {
		l := d.row(60)
		x := replay.All(l)
		for range 5 {
			rows := parted(l)
			var row []api.Entry
			for len(row) < len(l) {
				if k := d.roll(len(rows)); len(rows[k]) > 0 {
					row, rows[k] = append(row, rows[k][0]), rows[k][1:]
				}
			}
			if !index.Same(replay.All(row), x) {
				t.Fatalf("%s\n%s", show(l), show(row))
			}
			if !index.Same(replay.All(live(x, row)), x) {
				t.Fatalf("%s\n%s: those that are Live", show(l), show(row))
			}
		}
	}
}

// lent are records of which each list has room behind its length, and what is there.
func lent(l []api.Entry) []api.Entry {
	out := make([]api.Entry, 0, len(l)+3)
	for _, e := range l {
		data := make([]byte, 0, len(e.Data)+5)
		data = append(data, e.Data...)
		copy(data[:cap(data)][len(data):], "rest!")
		e.Data = data
		out = append(out, e)
	}
	for n := range 3 {
		rest := out[:cap(out)]
		rest[len(l)+n] = own(0).bind(900+n, mostGen, "rest", 5, 5)
	}
	return out
}

// untouched is whether records that were lent are as they were.
func untouched(lent, l []api.Entry) bool {
	if !slices.EqualFunc(lent, l, likeEntry) {
		return false
	}
	for n, e := range lent {
		if rest := e.Data[:cap(e.Data)]; !strings.HasPrefix(string(rest[len(l[n].Data):]), "rest!") {
			return false
		}
	}
	for n, e := range lent[:cap(lent)][len(l):] {
		if n < 3 && !likeEntry(e, own(0).bind(900+n, mostGen, "rest", 5, 5)) {
			return false
		}
	}
	return true
}

// copied are the same records in memory of their own.
func copied(l []api.Entry) []api.Entry {
	out := slices.Clone(l)
	for n := range out {
		out[n].Data = bytes.Clone(out[n].Data)
	}
	return out
}

// TestGivenStays: P2: no call changes what it is given, nor reads what lies behind it.
func TestGivenStays(t *testing.T) {
	d := dice(1000003)
	for range 60 {
		l := append(d.row(40), d.record(70))
		given := lent(l)
		x := replay.All(given)
		before := all(x)
		if !before.like(papers(l, true)) {
			t.Fatal(show(l))
		}
		for object := -1; object <= objects; object++ {
			if len(replay.Of(given, object)) != len(replay.Of(l, object)) || replay.Greatest(given, object) != replay.Greatest(l, object) {
				t.Fatal(show(l), object)
			}
		}
		for n, e := range given {
			y := replay.One(x, e)
			if !index.Same(y, replay.One(x, l[n])) || replay.Live(x, e) != replay.Live(x, l[n]) {
				t.Fatal(show(l), n)
			}
			replay.Within(x, y)
			replay.Within(y, x)
			behind(y, given...)
		}
		if !untouched(given, l) {
			t.Fatal("what was given has changed:", show(l))
		}
		if !all(x).like(before) || !index.Same(x, replay.All(l)) {
			t.Fatal("an Index has changed:", show(l))
		}
	}
}

// spoil writes over all that records have room for.
func spoil(l []api.Entry) {
	l = l[:cap(l)]
	for n := range l {
		data := l[n].Data[:cap(l[n].Data)]
		for k := range data {
			data[k] ^= 0x55
		}
		l[n] = api.Entry{At: at(99), Seq: 99, Pages: 99, Kind: 99, Data: []byte("spoilt")}
	}
}

// TestOfIsNobodys: P2: what Of hands out shares memory with nothing.
func TestOfIsNobodys(t *testing.T) {
	for object := range objects {
		l := append(full(), rightOnes(own(object))...)
		// Two records of one list may have their bytes in common.
		l = append(l, l[len(l)-1], l[len(l)-1])
		want := copied(replay.Of(l, object))
		given := lent(l)
		given[len(l)-1].Data = given[len(l)-2].Data
		a, b := replay.Of(given, object), replay.Of(given, object)
		spoil(a)
		if !untouched(given, l) || !slices.EqualFunc(b, want, likeEntry) || !slices.EqualFunc(replay.Of(given, object), want, likeEntry) {
			t.Fatal("what Of hands out is shared", object)
		}
		spoil(given)
		if !slices.EqualFunc(b, want, likeEntry) {
			t.Fatal("Of keeps what it was given", object)
		}
		for n := range b {
			data := b[n].Data[:cap(b[n].Data)]
			for k := range data {
				data[k] = 0xAA
			}
			want[n] = b[n]
			if !slices.EqualFunc(b[n+1:], want[n+1:], likeEntry) {
				t.Fatal("two records of Of share memory", object)
			}
		}
	}
}

// TestIndexIsNobodys: P2: an Index keeps no memory of the records that it was made of.
func TestIndexIsNobodys(t *testing.T) {
	l := full()
	given := copied(l)
	x, y := replay.All(given), behind(index.New(), given...)
	want := papers(l, true)
	spoil(given)
	if !all(x).like(want) || !all(y).like(papers(l, false)) || !index.Same(x, replay.All(l)) {
		t.Fatal("it has changed with its records")
	}
}

// TestNoOtherState: what a call answers hangs on its arguments alone, many at the same time.
func TestNoOtherState(t *testing.T) {
	l := full()
	x, want := replay.All(l), papers(l, true)
	wrongs := make([]string, 8)
	var wait sync.WaitGroup
	for k := range wrongs {
		wait.Go(func() {
			d := dice(7919 * (k + 1))
			for n := range 60 {
				row := d.row(30)
				y := behind(x, row...)
				if !all(y).like(papers(slices.Concat(l, row), false)) || !all(replay.All(slices.Concat(l, row))).like(papers(slices.Concat(l, row), true)) {
					wrongs[k] = fmt.Sprint("row ", n)
				}
				if !index.Same(replay.All(l), x) || len(replay.Of(l, k)) < 4 || replay.Greatest(l, k) != 3 || !replay.Within(x, x) || !replay.Live(x, l[k]) {
					wrongs[k] = fmt.Sprint("another call, row ", n)
				}
			}
		})
	}
	wait.Wait()
	for _, w := range wrongs {
		if w != "" {
			t.Fatal(w)
		}
	}
	if !all(x).like(want) {
		t.Fatal("an Index has changed")
	}
}
