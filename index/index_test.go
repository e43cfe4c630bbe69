package index_test

import (
	"fmt"
	"maps"
	"math"
	"slices"
	"sync"
	"testing"

	"spence/api"
	"spence/bitmap"
	"spence/index"
)

// How many objects there are, and the greatest number of a slice, told by hand.
const (
	objects = 16
	most    = 4096
)

// Kinds of deeds: the calls that make another Index.
const (
	bounds = iota
	binds
	pieces
	forgets
	drops
)

// deed is a call that makes another Index.
type deed struct {
	kind         int
	object, gen  int
	tag          string
	length, tick int
	i            int
	at           api.Addr
}

func (d deed) String() string {
	switch d.kind {
	case bounds, binds:
		return fmt.Sprintf("%s(object %d, gen %d, %q, length %d, tick %d, at %v)", []string{"Bound", "Bind"}[d.kind], d.object, d.gen, d.tag, d.length, d.tick, d.at)
	case pieces:
		return fmt.Sprintf("Piece(%d, %d, %d, at %v)", d.object, d.gen, d.i, d.at)
	}
	return fmt.Sprintf("%s(%d, %d, at %v)", []string{"Forget", "Drop"}[d.kind-forgets], d.object, d.gen, d.at)
}

func (d deed) bind() api.Bind {
	return api.Bind{Object: d.object, Gen: d.gen, Tag: d.tag, Length: d.length, Tick: d.tick}
}

// do is x behind deeds.
func do(x index.Index, row ...deed) index.Index {
	for _, d := range row {
		switch d.kind {
		case bounds:
			x = x.Bound(d.bind(), d.at)
		case binds:
			x = x.Bind(d.bind())
		case pieces:
			x = x.Piece(d.object, d.gen, d.i, d.at)
		case forgets:
			x = x.Forget(d.object, d.gen, d.at)
		case drops:
			x = x.Drop(d.object, d.gen)
		}
	}
	return x
}

// behind is New behind deeds.
func behind(row ...deed) index.Index { return do(index.New(), row...) }

// at is a place; those that are told in one test apart have numbers apart.
func at(n int) api.Addr { return api.Addr{Segment: n % 16, Page: n} }

// own makes deeds of one object.
type own int

func (o own) bound(gen int, tag string, length, tick, n int) deed {
	return deed{kind: bounds, object: int(o), gen: gen, tag: tag, length: length, tick: tick, at: at(n)}
}

func (o own) bind(gen int, tag string, length, tick int) deed {
	return deed{kind: binds, object: int(o), gen: gen, tag: tag, length: length, tick: tick}
}

func (o own) piece(gen, i, n int) deed {
	return deed{kind: pieces, object: int(o), gen: gen, i: i, at: at(n)}
}

func (o own) forget(gen, n int) deed {
	return deed{kind: forgets, object: int(o), gen: gen, at: at(n)}
}

func (o own) drop(gen int) deed { return deed{kind: drops, object: int(o), gen: gen} }

// told is what P19.2 tells of an object.
type told struct {
	bind   api.Bind
	is     bool
	where  api.Addr
	floor  int
	tomb   api.Addr
	buried bool
	last   int
	slices []int
	places []api.Addr
}

func (a told) like(b told) bool {
	return a.bind == b.bind && a.is == b.is && a.where == b.where && a.floor == b.floor && a.tomb == b.tomb && a.buried == b.buried && a.last == b.last && slices.Equal(a.slices, b.slices) && slices.Equal(a.places, b.places)
}

// placeless is what is told but for places.
func (a told) placeless() told {
	a.where, a.tomb, a.places = api.Addr{}, api.Addr{}, nil
	return a
}

// tied is what is told of an object that has a bind alone.
func (o own) tied(gen int, tag string, length, tick, n int) told {
	return told{bind: o.bind(gen, tag, length, tick).bind(), is: true, where: at(n), last: gen}
}

// with are slices that there are, too, each with the number of its place behind it.
func (a told) with(l ...int) told {
	for k := 0; k < len(l); k += 2 {
		a.slices = append(a.slices, l[k])
		a.places = append(a.places, at(l[k+1]))
	}
	return a
}

// above is a floor that there is, too.
func (a told) above(gen, n int) told {
	a.floor, a.tomb, a.buried, a.last = gen, at(n), true, max(a.last, gen)
	return a
}

// paper is what the document says of an object behind a row of deeds, told by looking back over all of them: the floor is the greatest generation that was ever forgotten, the bind's Gen the greatest one ever bound that is above it.
func paper(row []deed, object int) told {
	var out told
	if object < 0 || object >= objects {
		return out
	}
	var mine []deed
	for _, d := range row {
		if d.object == object {
			mine = append(mine, d)
		}
	}
	for _, d := range mine {
		if d.kind >= forgets {
			out.floor = max(out.floor, d.gen)
		}
	}
	gen := 0
	for _, d := range mine {
		switch {
		case d.kind >= forgets && d.gen == out.floor && d.gen > 0:
			out.tomb, out.buried = d.at, true
		case d.kind <= binds && d.gen > out.floor:
			gen = max(gen, d.gen)
		}
	}
	out.last = max(out.floor, gen)
	if gen == 0 {
		return out
	}
	first := slices.IndexFunc(mine, func(d deed) bool { return d.kind <= binds && d.gen == gen })
	out.bind, out.is = mine[first].bind(), true
	there := map[int]api.Addr{}
	for _, d := range mine[first:] {
		switch {
		case d.gen != gen:
		case d.kind == pieces && d.i >= 0 && d.i <= most:
			there[d.i] = d.at
		case d.kind <= binds && d.tag == out.bind.Tag && d.length == out.bind.Length && d.tick >= out.bind.Tick:
			out.bind.Tick, out.where = d.tick, d.at
		}
	}
	out.slices = slices.Sorted(maps.Keys(there))
	for _, i := range out.slices {
		out.places = append(out.places, there[i])
	}
	return out
}

// papers are those of all objects.
func papers(row []deed) [objects]told {
	var out [objects]told
	for object := range out {
		out[object] = paper(row, object)
	}
	return out
}

// look is what an Index tells of an object.
func look(x index.Index, object int) told {
	var a told
	a.bind, a.is = x.Get(object)
	a.where, _ = x.Where(object)
	a.floor = x.Floor(object)
	a.tomb, a.buried = x.Tomb(object)
	a.last = x.Last(object)
	a.slices = x.Slices(object).List()
	a.places = x.Places(object)
	return a
}

// all is what an Index tells of all objects.
func all(x index.Index) [objects]told {
	var out [objects]told
	for object := range out {
		out[object] = look(x, object)
	}
	return out
}

func alike(a, b [objects]told) bool {
	for object := range a {
		if !a[object].like(b[object]) {
			return false
		}
	}
	return true
}

// wrong are objects that may not be.
func wrong() []int {
	return []int{-1, objects, -2, 17, -objects, 31, 32, 255, 256, 1 << 16, 1 << 32, 1<<32 + 1, -1 << 32, math.MaxInt, math.MaxInt - 1, math.MinInt, math.MinInt + 1, math.MinInt + objects}
}

// edges are slices at which the numbers begin and end, and those that may not be.
func edges() []int {
	return []int{-1, 0, 1, 63, 64, 4095, most, most + 1, -2, most + 2, 2 * most, 1 << 16, 1 << 32, 1<<32 + 1, -1 << 32, math.MaxInt, math.MaxInt - 1, math.MinInt, math.MinInt + 1}
}

// atHolds: At of a slice.
func atHolds(t *testing.T, how string, x index.Index, object, i int, want told) {
	t.Helper()
	place, is := x.At(object, i)
	k, there := slices.BinarySearch(want.slices, i)
	if is != there || there && place != want.places[k] || !there && place != (api.Addr{}) {
		t.Fatalf("%s: At(%d, %d): %v, %v", how, object, i, place, is)
	}
}

// oneHolds: P19.2 of an object.
func oneHolds(t *testing.T, how string, x index.Index, object int, want told) {
	t.Helper()
	if got := look(x, object); !got.like(want) {
		t.Fatalf("%s: object %d:\n%+v, not\n%+v", how, object, got, want)
	}
	if place, is := x.Where(object); is != want.is || place != want.where {
		t.Fatalf("%s: Where(%d): %v, %v", how, object, place, is)
	}
	if m := x.Slices(object); m != bitmap.Of(want.slices...) || m.Len() != len(want.slices) {
		t.Fatalf("%s: Slices(%d): %v", how, object, m.List())
	}
	for _, i := range edges() {
		atHolds(t, how, x, object, i, want)
	}
	for _, i := range want.slices {
		atHolds(t, how, x, object, i-1, want)
		atHolds(t, how, x, object, i, want)
		atHolds(t, how, x, object, i+1, want)
	}
}

// holds: P19.2 of all objects, and of such that may not be.
func holds(t *testing.T, how string, x index.Index, want [objects]told) {
	t.Helper()
	var have []int
	for object, a := range want {
		oneHolds(t, how, x, object, a)
		if a.is {
			have = append(have, object)
		}
	}
	if got := x.Objects(); !slices.Equal(got, have) {
		t.Fatalf("%s: Objects %v, not %v", how, got, have)
	}
	for _, object := range wrong() {
		oneHolds(t, how, x, object, told{})
	}
}

// rowHolds: P19.1 and P19.2 of a row of deeds.
func rowHolds(t *testing.T, row ...deed) {
	t.Helper()
	holds(t, fmt.Sprint(row), behind(row...), papers(row))
}

// full is a row behind which each object has a bind, slices, and a floor at each second one.
func full() []deed {
	var row []deed
	for object := objects - 1; object >= 0; object-- {
		o := own(object)
		if object%2 == 0 {
			row = append(row, o.forget(2, 100+object))
		}
		row = append(row, o.bound(3, "a", 5, 5, 200+object), o.piece(3, 1, 300+object), o.piece(3, 0, 400+object), o.piece(3, most, 500+object))
	}
	return row
}

// gens are generations that a full Index has something to say of, and those at the edges.
func gens() []int {
	return []int{math.MinInt, math.MinInt + 1, -1 << 32, -3, -1, 0, 1, 2, 3, 4, 1<<31 - 1, 1 << 31, 1 << 32, 1<<32 + 3, math.MaxInt - 1, math.MaxInt}
}

// TestExamples: the chapter's, and ordinary inputs.
func TestExamples(t *testing.T) {
	x := index.New().Bind(api.Bind{Object: 3, Gen: 2}).Drop(3, 2)
	if b, is := x.Get(3); is || b != (api.Bind{}) || x.Floor(3) != 2 || x.Last(3) != 2 || len(x.Objects()) != 0 {
		t.Fatal(b, is, x.Floor(3))
	}
	v := api.Bind{Object: 1, Gen: 2, Tag: "v1-0", Length: 53, Tick: 9}
	x = index.New().Bound(v, api.Addr{Segment: 1, Page: 2})
	if b, is := x.Get(1); !is || b != v {
		t.Fatal(b, is)
	}
	if place, is := x.Where(1); !is || place != (api.Addr{Segment: 1, Page: 2}) {
		t.Fatal(place, is)
	}
	x = x.Piece(1, 2, 5, api.Addr{Segment: 3, Page: 4}).Piece(1, 2, 2, api.Addr{Segment: 5, Page: 6})
	if place, is := x.At(1, 5); !is || place != (api.Addr{Segment: 3, Page: 4}) {
		t.Fatal(place, is)
	}
	if l := x.Places(1); !slices.Equal(l, []api.Addr{{Segment: 5, Page: 6}, {Segment: 3, Page: 4}}) {
		t.Fatal(l)
	}
	if x.Slices(1) != bitmap.Of(2, 5) || x.Last(1) != 2 || x.Floor(1) != 0 || !slices.Equal(x.Objects(), []int{1}) {
		t.Fatal(x.Slices(1).List(), x.Last(1), x.Floor(1), x.Objects())
	}
}

// TestNew: New, and the Index that nobody made, are told and written to alike.
func TestNew(t *testing.T) {
	var zero index.Index
	for how, x := range map[string]index.Index{"New": index.New(), "the zero Index": zero, "a field of nobody": struct{ x index.Index }{}.x} {
		holds(t, how, x, [objects]told{})
		if !index.Same(x, index.New()) || !index.Same(index.New(), x) || !index.Same(x, zero) || !index.Same(x, x) {
			t.Fatal(how)
		}
		row := full()
		for n := range row {
			holds(t, how+" written to", do(x, row[:n+1]...), papers(row[:n+1]))
		}
		for object := range objects {
			o := own(object)
			for _, d := range []deed{o.bound(1, "a", 5, 5, 7), o.bind(1, "a", 5, 5), o.piece(1, 0, 7), o.piece(0, 0, 7), o.forget(1, 7), o.drop(1)} {
				holds(t, how+" behind "+d.String(), do(x, d), papers([]deed{d}))
			}
		}
	}
	holds(t, "still New", index.New(), [objects]told{})
	holds(t, "still the zero Index", zero, [objects]told{})
}

// TestWrongObject: of an object that may not be nothing is told, and nothing changes.
func TestWrongObject(t *testing.T) {
	for _, row := range [][]deed{nil, full()} {
		x, want := behind(row...), papers(row)
		for _, object := range wrong() {
			o := own(object)
			deeds := []deed{o.bound(1, "a", 5, 5, 7), o.bound(9, "", 0, 0, 0), o.bind(9, "a", 5, 5), o.piece(3, 2, 7), o.piece(0, 0, 7), o.piece(3, most, 0), o.forget(1, 7), o.forget(9, 7), o.drop(9), o.drop(2)}
			for _, d := range deeds {
				y := do(x, d)
				if !alike(all(y), want) || !index.Same(x, y) || !index.Same(y, x) {
					t.Fatal(d)
				}
			}
			holds(t, fmt.Sprint("all of ", object), do(x, deeds...), want)
		}
	}
}

// TestObjectEdges: each call on the first objects and the last ones, beside all others.
func TestObjectEdges(t *testing.T) {
	for _, object := range []int{0, 1, 14, 15} {
		o := own(object)
		for _, d := range []deed{o.bound(4, "b", 6, 6, 7), o.bound(3, "a", 5, 6, 7), o.bind(4, "b", 6, 6), o.piece(3, 2, 7), o.piece(3, 0, 7), o.forget(1, 7), o.forget(2, 7), o.forget(3, 7), o.forget(4, 7), o.drop(3)} {
			rowHolds(t, d)
			rowHolds(t, append(full(), d)...)
		}
	}
}

// play is a row of deeds of one object, and what is told of it afterwards.
type play struct {
	row  []deed
	want told
}

// boundPlays: P19.1 of Bound and Bind, told by hand.
func boundPlays(o own) []play {
	none := told{}
	a := o.bound(2, "a", 5, 5, 1)
	slice := o.piece(2, 3, 2)
	tied := o.tied(2, "a", 5, 5, 1).with(3, 2)
	return []play{
		// There is no bind, and no floor.
		{[]deed{o.bound(1, "", 0, 0, 0)}, o.tied(1, "", 0, 0, 0)},
		{[]deed{o.bound(0, "", 0, 0, 0)}, none},
		{[]deed{o.bound(0, "a", 5, 5, 1)}, none},
		{[]deed{o.bound(-1, "a", 5, 5, 1)}, none},
		{[]deed{o.bound(math.MinInt, "a", 5, 5, 1)}, none},
		{[]deed{o.bound(math.MaxInt, "a", 5, 5, 1)}, o.tied(math.MaxInt, "a", 5, 5, 1)},
		{[]deed{o.bound(1<<31-1, "a b\"", -1, math.MinInt, -7)}, o.tied(1<<31-1, "a b\"", -1, math.MinInt, -7)},
		{[]deed{o.bound(1<<31, "a", most+1, math.MaxInt, 1)}, o.tied(1<<31, "a", most+1, math.MaxInt, 1)},
		// There is no bind, but a floor.
		{[]deed{o.forget(3, 1), o.bound(2, "a", 5, 5, 2)}, none.above(3, 1)},
		{[]deed{o.forget(3, 1), o.bound(3, "a", 5, 5, 2)}, none.above(3, 1)},
		{[]deed{o.forget(3, 1), o.bound(4, "a", 5, 5, 2)}, o.tied(4, "a", 5, 5, 2).above(3, 1)},
		{[]deed{o.forget(3, 1), o.bound(0, "", 0, 0, 0)}, none.above(3, 1)},
		{[]deed{o.forget(3, 1), o.bound(-1, "a", 5, 5, 2)}, none.above(3, 1)},
		{[]deed{o.forget(math.MaxInt, 1), o.bound(math.MaxInt, "a", 5, 5, 2)}, none.above(math.MaxInt, 1)},
		{[]deed{o.forget(math.MaxInt-1, 1), o.bound(math.MaxInt, "a", 5, 5, 2)}, o.tied(math.MaxInt, "a", 5, 5, 2).above(math.MaxInt-1, 1)},
		// There was one, and it is gone.
		{[]deed{a, slice, o.forget(2, 3), a}, none.above(2, 3)},
		{[]deed{a, slice, o.forget(2, 3), o.bound(2, "a", 5, 6, 4)}, none.above(2, 3)},
		{[]deed{a, slice, o.forget(2, 3), o.bound(3, "a", 5, 5, 4)}, o.tied(3, "a", 5, 5, 4).above(2, 3)},
		// A Gen lower than the bind's.
		{[]deed{a, slice, o.bound(1, "a", 5, 9, 4)}, tied},
		{[]deed{a, slice, o.bound(0, "a", 5, 9, 4)}, tied},
		{[]deed{a, slice, o.bound(-1, "a", 5, 9, 4)}, tied},
		{[]deed{a, slice, o.forget(1, 3), o.bound(1, "a", 5, 9, 4)}, tied.above(1, 3)},
		// The same Gen.
		{[]deed{a, slice, o.bound(2, "a", 5, 4, 4)}, tied},
		{[]deed{a, slice, o.bound(2, "a", 5, math.MinInt, 4)}, tied},
		{[]deed{a, slice, o.bound(2, "a", 5, 5, 4)}, o.tied(2, "a", 5, 5, 4).with(3, 2)},
		{[]deed{a, slice, o.bound(2, "a", 5, 6, 4)}, o.tied(2, "a", 5, 6, 4).with(3, 2)},
		{[]deed{a, slice, o.bound(2, "a", 5, math.MaxInt, 4)}, o.tied(2, "a", 5, math.MaxInt, 4).with(3, 2)},
		{[]deed{a, slice, o.bound(2, "a", 5, 6, 4), o.bound(2, "a", 5, 5, 6)}, o.tied(2, "a", 5, 6, 4).with(3, 2)},
		{[]deed{a, slice, o.bound(2, "a", 5, 6, 4), o.bound(2, "a", 5, 7, 6)}, o.tied(2, "a", 5, 7, 6).with(3, 2)},
		{[]deed{a, slice, o.forget(1, 3), o.bound(2, "a", 5, 6, 4)}, o.tied(2, "a", 5, 6, 4).with(3, 2).above(1, 3)},
		// The same Gen with another Tag, or another Length.
		{[]deed{a, slice, o.bound(2, "b", 5, 5, 4)}, tied},
		{[]deed{a, slice, o.bound(2, "b", 5, 9, 4)}, tied},
		{[]deed{a, slice, o.bound(2, "b", 5, 4, 4)}, tied},
		{[]deed{a, slice, o.bound(2, "", 5, 5, 4)}, tied},
		{[]deed{a, slice, o.bound(2, "A", 5, 5, 4)}, tied},
		{[]deed{a, slice, o.bound(2, "a", 6, 5, 4)}, tied},
		{[]deed{a, slice, o.bound(2, "a", 4, 9, 4)}, tied},
		{[]deed{a, slice, o.bound(2, "b", 6, 9, 4)}, tied},
		// A higher Gen: what it says counts, be it what it may, and the slices are gone.
		{[]deed{a, slice, o.bound(3, "a", 5, 5, 4)}, o.tied(3, "a", 5, 5, 4)},
		{[]deed{a, slice, o.bound(3, "b", 0, 0, 4)}, o.tied(3, "b", 0, 0, 4)},
		{[]deed{a, slice, o.bound(math.MaxInt, "b", 6, -1, 4)}, o.tied(math.MaxInt, "b", 6, -1, 4)},
		{[]deed{a, slice, o.forget(1, 3), o.bound(3, "a", 5, 5, 4)}, o.tied(3, "a", 5, 5, 4).above(1, 3)},
		{[]deed{a, slice, o.bound(3, "a", 5, 5, 4), o.piece(2, 4, 6), o.piece(3, 9, 7)}, o.tied(3, "a", 5, 5, 4).with(9, 7)},
		// Bind, whose place is the zero one.
		{[]deed{o.bind(2, "a", 5, 5)}, o.tied(2, "a", 5, 5, 0)},
		{[]deed{o.bind(0, "a", 5, 5)}, none},
		{[]deed{a, slice, o.bind(2, "a", 5, 5)}, o.tied(2, "a", 5, 5, 0).with(3, 2)},
		{[]deed{a, slice, o.bind(2, "a", 5, 6)}, o.tied(2, "a", 5, 6, 0).with(3, 2)},
		{[]deed{a, slice, o.bind(2, "a", 5, 4)}, tied},
		{[]deed{a, slice, o.bind(2, "b", 5, 6)}, tied},
		{[]deed{a, slice, o.bind(3, "b", 6, 6)}, o.tied(3, "b", 6, 6, 0)},
		{[]deed{o.forget(2, 1), o.bind(2, "a", 5, 5)}, none.above(2, 1)},
	}
}

// piecePlays: P19.1 of Piece, told by hand.
func piecePlays(o own) []play {
	none := told{}
	a := o.bound(2, "a", 5, 5, 1)
	tied := o.tied(2, "a", 5, 5, 1)
	return []play{
		// There is no bind.
		{[]deed{o.piece(2, 0, 1)}, none},
		{[]deed{o.piece(0, 0, 1)}, none},
		{[]deed{o.piece(-1, 0, 1)}, none},
		{[]deed{o.forget(2, 1), o.piece(2, 0, 2)}, none.above(2, 1)},
		{[]deed{o.forget(2, 1), o.piece(0, 0, 2)}, none.above(2, 1)},
		{[]deed{o.piece(2, 0, 2), a}, tied},
		{[]deed{o.piece(0, 0, 2), a}, tied},
		{[]deed{a, o.forget(2, 2), o.piece(2, 0, 3)}, none.above(2, 2)},
		{[]deed{a, o.forget(2, 2), o.piece(0, 0, 3)}, none.above(2, 2)},
		{[]deed{a, o.forget(2, 2), o.piece(0, 0, 3), o.piece(2, 0, 3), o.bound(3, "a", 5, 5, 4)}, o.tied(3, "a", 5, 5, 4).above(2, 2)},
		// Generations.
		{[]deed{a, o.piece(1, 0, 2)}, tied},
		{[]deed{a, o.piece(2, 0, 2)}, tied.with(0, 2)},
		{[]deed{a, o.piece(3, 0, 2)}, tied},
		{[]deed{a, o.piece(0, 0, 2)}, tied},
		{[]deed{a, o.piece(-2, 0, 2)}, tied},
		{[]deed{a, o.piece(math.MaxInt, 0, 2)}, tied},
		{[]deed{a, o.piece(math.MinInt, 0, 2)}, tied},
		{[]deed{a, o.piece(1<<32+2, 0, 2)}, tied},
		{[]deed{a, o.forget(1, 9), o.piece(2, 0, 2)}, tied.with(0, 2).above(1, 9)},
		// Slices, also such that the object is too short for.
		{[]deed{a, o.piece(2, -1, 2)}, tied},
		{[]deed{a, o.piece(2, most, 2)}, tied.with(most, 2)},
		{[]deed{a, o.piece(2, most-1, 2)}, tied.with(most-1, 2)},
		{[]deed{a, o.piece(2, most+1, 2)}, tied},
		{[]deed{a, o.piece(2, math.MaxInt, 2)}, tied},
		{[]deed{a, o.piece(2, math.MinInt, 2)}, tied},
		{[]deed{a, o.piece(2, 1<<32, 2)}, tied},
		// One slice twice, at two places, at the zero one, and at the same.
		{[]deed{a, o.piece(2, 7, 2), o.piece(2, 7, 3)}, tied.with(7, 3)},
		{[]deed{a, o.piece(2, 7, 3), o.piece(2, 7, 2)}, tied.with(7, 2)},
		{[]deed{a, o.piece(2, 7, 2), o.piece(2, 7, 0)}, tied.with(7, 0)},
		{[]deed{a, o.piece(2, 7, 2), o.piece(2, 7, 2)}, tied.with(7, 2)},
		{[]deed{a, o.piece(2, 7, 2), o.piece(1, 7, 3)}, tied.with(7, 2)},
		{[]deed{a, o.piece(2, 7, 2), o.piece(2, 8, 2)}, tied.with(7, 2, 8, 2)},
		{[]deed{a, o.piece(2, 7, -3)}, tied.with(7, -3)},
	}
}

// forgetPlays: P19.1 of Forget and Drop, told by hand.
func forgetPlays(o own) []play {
	none := told{}
	a := o.bound(3, "a", 5, 5, 1)
	slice := o.piece(3, 7, 2)
	tied := o.tied(3, "a", 5, 5, 1).with(7, 2)
	return []play{
		// There is no bind: above the floor, at it, below it.
		{[]deed{o.forget(1, 1)}, none.above(1, 1)},
		{[]deed{o.forget(1, 0)}, none.above(1, 0)},
		{[]deed{o.forget(0, 1)}, none},
		{[]deed{o.forget(-1, 1)}, none},
		{[]deed{o.forget(math.MinInt, 1)}, none},
		{[]deed{o.forget(math.MaxInt, 1)}, none.above(math.MaxInt, 1)},
		{[]deed{o.forget(2, 1), o.forget(3, 2)}, none.above(3, 2)},
		{[]deed{o.forget(2, 1), o.forget(2, 2)}, none.above(2, 2)},
		{[]deed{o.forget(2, 1), o.forget(2, 0)}, none.above(2, 0)},
		{[]deed{o.forget(2, 1), o.forget(2, 1)}, none.above(2, 1)},
		{[]deed{o.forget(2, 1), o.forget(1, 2)}, none.above(2, 1)},
		{[]deed{o.forget(2, 1), o.forget(0, 2)}, none.above(2, 1)},
		{[]deed{o.forget(2, 1), o.forget(-2, 2)}, none.above(2, 1)},
		{[]deed{o.forget(math.MaxInt, 1), o.forget(math.MaxInt, 2)}, none.above(math.MaxInt, 2)},
		// There is a bind: of a Gen below it, of its own, of one above it.
		{[]deed{a, slice, o.forget(1, 3)}, tied.above(1, 3)},
		{[]deed{a, slice, o.forget(2, 3)}, tied.above(2, 3)},
		{[]deed{a, slice, o.forget(3, 3)}, none.above(3, 3)},
		{[]deed{a, slice, o.forget(4, 3)}, none.above(4, 3)},
		{[]deed{a, slice, o.forget(math.MaxInt, 3)}, none.above(math.MaxInt, 3)},
		{[]deed{a, slice, o.forget(0, 3)}, tied},
		{[]deed{a, slice, o.forget(-3, 3)}, tied},
		{[]deed{a, slice, o.forget(math.MinInt, 3)}, tied},
		{[]deed{a, slice, o.forget(2, 3), o.forget(2, 4)}, tied.above(2, 4)},
		{[]deed{a, slice, o.forget(2, 3), o.forget(1, 4)}, tied.above(2, 3)},
		{[]deed{a, slice, o.forget(2, 3), o.forget(3, 4)}, none.above(3, 4)},
		{[]deed{a, slice, o.forget(3, 3), o.forget(2, 4)}, none.above(3, 3)},
		{[]deed{a, o.forget(3, 3)}, none.above(3, 3)},
		// A bind behind it.
		{[]deed{o.forget(3, 3), a}, none.above(3, 3)},
		{[]deed{o.forget(2, 3), a, slice}, tied.above(2, 3)},
		{[]deed{a, slice, o.forget(3, 3), o.bound(4, "a", 5, 5, 4)}, o.tied(4, "a", 5, 5, 4).above(3, 3)},
		{[]deed{a, slice, o.forget(9, 3), o.bound(9, "a", 5, 5, 4), o.bound(10, "b", 5, 5, 5)}, o.tied(10, "b", 5, 5, 5).above(9, 3)},
		// Drop, whose place is the zero one.
		{[]deed{o.drop(2)}, none.above(2, 0)},
		{[]deed{o.drop(0)}, none},
		{[]deed{o.drop(-1)}, none},
		{[]deed{o.forget(2, 1), o.drop(2)}, none.above(2, 0)},
		{[]deed{o.forget(2, 1), o.drop(1)}, none.above(2, 1)},
		{[]deed{o.forget(2, 1), o.drop(3)}, none.above(3, 0)},
		{[]deed{o.drop(2), o.forget(2, 1)}, none.above(2, 1)},
		{[]deed{a, slice, o.drop(2)}, tied.above(2, 0)},
		{[]deed{a, slice, o.drop(3)}, none.above(3, 0)},
		{[]deed{a, slice, o.drop(4)}, none.above(4, 0)},
	}
}

// TestPlaysByHand: P19.1, and what P19.2 tells afterwards, of an object beside none and beside all.
func TestPlaysByHand(t *testing.T) {
	for _, object := range []int{0, 1, 6, 15} {
		o := own(object)
		others := slices.DeleteFunc(full(), func(d deed) bool { return d.object == object })
		for _, p := range slices.Concat(boundPlays(o), piecePlays(o), forgetPlays(o)) {
			var want [objects]told
			want[object] = p.want
			holds(t, fmt.Sprint(p.row), behind(p.row...), want)
			if !paper(p.row, object).like(p.want) {
				t.Fatalf("%v: the paper is wrong: %+v", p.row, paper(p.row, object))
			}
			beside := papers(others)
			beside[object] = p.want
			holds(t, fmt.Sprint("beside all: ", p.row), do(behind(others...), p.row...), beside)
		}
	}
}

// TestGens: P19.1 of each Gen behind each other one, and each tick behind each other one.
func TestGens(t *testing.T) {
	o := own(4)
	for _, floor := range gens() {
		for _, gen := range gens() {
			rowHolds(t, o.forget(floor, 1), o.bound(gen, "a", 5, 5, 2), o.piece(gen, 3, 3), o.piece(0, 4, 4))
			rowHolds(t, o.bound(gen, "a", 5, 5, 2), o.piece(gen, 3, 3), o.forget(floor, 1))
			rowHolds(t, o.bound(gen, "a", 5, 5, 2), o.piece(gen, 3, 3), o.bound(floor, "a", 5, 6, 4))
			rowHolds(t, o.forget(gen, 1), o.forget(floor, 2))
			rowHolds(t, o.bound(gen, "a", 5, 5, 2), o.piece(floor, 3, 3))
			rowHolds(t, o.bound(3, "a", floor, gen, 2), o.bound(3, "a", floor, floor, 3), o.bound(3, "a", gen, floor, 4))
		}
	}
}

// TestAsk: P19.2 of an object that has nothing, of one that has a floor alone, of one that has a bind without slices, of one that has slices.
func TestAsk(t *testing.T) {
	x := index.New().
		Forget(1, 4, api.Addr{Segment: 2, Page: 3}).
		Bound(api.Bind{Object: 2, Gen: 7, Tag: "a", Length: 9, Tick: 8}, api.Addr{Segment: 4, Page: 5}).
		Forget(3, 6, api.Addr{Segment: 6, Page: 7}).
		Bound(api.Bind{Object: 3, Gen: 9, Tag: "b", Length: 5, Tick: 1}, api.Addr{Segment: 8, Page: 9}).
		Piece(3, 9, most, api.Addr{Segment: 10, Page: 11}).
		Piece(3, 9, 2, api.Addr{Segment: 12, Page: 13})
	want := [objects]told{
		1: {floor: 4, tomb: api.Addr{Segment: 2, Page: 3}, buried: true, last: 4},
		2: {bind: api.Bind{Object: 2, Gen: 7, Tag: "a", Length: 9, Tick: 8}, is: true, where: api.Addr{Segment: 4, Page: 5}, last: 7},
		3: {
			bind: api.Bind{Object: 3, Gen: 9, Tag: "b", Length: 5, Tick: 1}, is: true, where: api.Addr{Segment: 8, Page: 9},
			floor: 6, tomb: api.Addr{Segment: 6, Page: 7}, buried: true, last: 9,
			slices: []int{2, most}, places: []api.Addr{{Segment: 12, Page: 13}, {Segment: 10, Page: 11}},
		},
	}
	holds(t, "four kinds", x, want)
	if l := x.Objects(); !slices.Equal(l, []int{2, 3}) {
		t.Fatal(l)
	}
	// The floor is the greater one, once the bind is gone.
	x = x.Forget(3, 12, api.Addr{Page: 1})
	if x.Last(3) != 12 || x.Last(2) != 7 || x.Last(1) != 4 || x.Last(0) != 0 {
		t.Fatal(x.Last(3), x.Last(2), x.Last(1), x.Last(0))
	}
	if _, is := x.At(3, 2); is || x.Slices(3) != (bitmap.Map{}) || len(x.Places(3)) != 0 {
		t.Fatal("slices of what is gone")
	}
}

// TestAllSlices: each slice that may be, put in falling order and in rising order, and each at the place that it was put to.
func TestAllSlices(t *testing.T) {
	o := own(15)
	place := func(i int) api.Addr { return api.Addr{Segment: i % 7, Page: i * 3} }
	for how, step := range map[string]int{"falling": -1, "rising": 1} {
		x := behind(o.bound(2, "a", 5, 5, 1))
		want := o.tied(2, "a", 5, 5, 1)
		for n := range most + 1 {
			i := n
			if step < 0 {
				i = most - n
			}
			x = x.Piece(15, 2, i, place(i))
			if at, is := x.At(15, i); !is || at != place(i) || x.Slices(15).Len() != n+1 {
				t.Fatal(how, i, at, is)
			}
			if _, is := x.At(15, i+step); is {
				t.Fatal(how, i)
			}
		}
		for i := range most + 1 {
			want.slices = append(want.slices, i)
			want.places = append(want.places, place(i))
		}
		oneHolds(t, how, x, 15, want)
		// The others are none of them; a renewed bind has them all; a new one and a floor have none.
		for object := range objects - 1 {
			oneHolds(t, how, x, object, told{})
		}
		want.bind.Tick, want.where = 6, at(2)
		oneHolds(t, how+", renewed", do(x, o.bound(2, "a", 5, 6, 2)), 15, want)
		oneHolds(t, how+", of another Gen", do(x, o.bound(3, "a", 5, 6, 2)), 15, o.tied(3, "a", 5, 6, 2))
		oneHolds(t, how+", gone", do(x, o.forget(2, 2)), 15, told{}.above(2, 2))
	}
	x := behind(o.bound(2, "a", 5, 5, 1))
	for i := range most + 1 {
		y := x.Piece(15, 2, i, place(i))
		if y.Slices(15) != bitmap.Of(i) || !slices.Equal(y.Places(15), []api.Addr{place(i)}) || x.Slices(15) != bitmap.Of() {
			t.Fatal(i)
		}
	}
}

// TestObjects: of each set of objects, bound in falling order; and all sixteen.
func TestObjects(t *testing.T) {
	var choose func(x index.Index, object int, have []int)
	choose = func(x index.Index, object int, have []int) {
		if object < 0 {
			want := slices.Clone(have)
			slices.Reverse(want)
			if got := x.Objects(); !slices.Equal(got, want) {
				t.Fatalf("%v, not %v", got, want)
			}
			return
		}
		o := own(object)
		choose(x, object-1, have)
		choose(do(x, o.bound(1, "a", 5, 5, 1)), object-1, append(have, object))
	}
	choose(index.New(), objects-1, nil)

	x := index.New()
	for object := objects - 1; object >= 0; object-- {
		x = do(x, own(object).bind(1, "", 0, 0))
	}
	if got := x.Objects(); !slices.Equal(got, []int{0, 1, 2, 3, 4, 5, 6, 7, 8, 9, 10, 11, 12, 13, 14, 15}) {
		t.Fatal(got)
	}
	for object := range objects {
		x = do(x, own(object).forget(1, 1), own(object).piece(1, 1, 1))
		if got := x.Objects(); len(got) != objects-1-object || slices.Contains(got, object) {
			t.Fatal(object, got)
		}
	}
	if got := x.Objects(); len(got) != 0 {
		t.Fatal(got)
	}
}

// TestPlaces: of none, of one, of many that were put in falling order, and in an order without a short rule.
func TestPlaces(t *testing.T) {
	o := own(2)
	a := o.bound(2, "a", 5, 5, 1)
	for _, l := range [][]int{{}, {0}, {most}, {9, 8, 7}, {most, 64, 63, 1, 0}, {5, most, 0, 2000, 64, 65, 3}, {100, 90, 80, 70, 60, 50, 40, 30, 20, 10, 0}} {
		row := []deed{a}
		var want []api.Addr
		for n, i := range l {
			row = append(row, o.piece(2, i, 10+n))
		}
		for _, i := range slices.Sorted(slices.Values(l)) {
			want = append(want, at(10+slices.Index(l, i)))
		}
		x := behind(row...)
		if got := x.Places(2); !slices.Equal(got, want) {
			t.Fatalf("%v: %v, not %v", l, got, want)
		}
		rowHolds(t, row...)
		if got := x.Places(1); len(got) != 0 {
			t.Fatal(got)
		}
	}
}

// wide are deeds of an object of which each row has something to say; none has a place of its own yet.
func wide(o own) []deed {
	return []deed{
		o.bound(1, "a", 5, 5, 0), o.bound(2, "a", 5, 5, 0), o.bound(3, "a", 5, 5, 0),
		o.bound(2, "a", 5, 4, 0), o.bound(2, "a", 5, 6, 0), o.bound(2, "b", 5, 5, 0), o.bound(2, "a", 6, 6, 0), o.bound(0, "", 0, 0, 0),
		o.bind(2, "a", 5, 5), o.bind(3, "b", 6, 4),
		o.piece(1, 0, 0), o.piece(2, 0, 0), o.piece(3, 0, 0), o.piece(2, 1, 0), o.piece(0, 0, 0), o.piece(2, most+1, 0),
		o.forget(0, 0), o.forget(1, 0), o.forget(2, 0), o.forget(3, 0), o.drop(2), o.drop(1),
	}
}

// narrow are fewer of them.
func narrow(o own) []deed {
	return []deed{
		o.bound(1, "a", 5, 5, 0), o.bound(2, "a", 5, 5, 0), o.bound(2, "a", 5, 6, 0), o.piece(1, 0, 0), o.piece(2, 0, 0), o.piece(2, 1, 0), o.forget(1, 0), o.forget(2, 0), o.drop(1),
	}
}

// placed is a deed at a place of its own; Bind and Drop have none.
func placed(d deed, n int) deed {
	if d.kind != binds && d.kind != drops {
		d.at = at(n)
	}
	return d
}

// everyRow holds P19.1 and P19.2 of all rows of so many deeds, the last one at a place of its own; and that what others were made of stays as it is.
func everyRow(t *testing.T, object int, deeds []deed, depth int) {
	t.Helper()
	var walk func(x index.Index, row []deed)
	walk = func(x index.Index, row []deed) {
		want := paper(row, object)
		if got := look(x, object); !got.like(want) {
			t.Fatalf("%v:\n%+v, not\n%+v", row, got, want)
		}
		for i := -1; i <= 2; i++ {
			atHolds(t, "a row", x, object, i, want)
		}
		if got := x.Objects(); want.is != slices.Equal(got, []int{object}) || !want.is && len(got) != 0 {
			t.Fatalf("%v: Objects %v", row, got)
		}
		if len(row) == depth {
			return
		}
		for _, d := range deeds {
			d = placed(d, 1+len(row))
			walk(do(x, d), append(slices.Clip(row), d))
		}
		if got := look(x, object); !got.like(want) {
			t.Fatalf("%v, behind others that were made of it:\n%+v, not\n%+v", row, got, want)
		}
	}
	walk(index.New(), nil)
}

// TestRows: P19.1 and P19.2, of all rows of three of many kinds of deeds, and of five of fewer.
func TestRows(t *testing.T) {
	everyRow(t, 0, wide(0), 3)
	everyRow(t, 15, narrow(15), 5)
}

// dice are numbers without a short rule in them, the same each time.
type dice uint64

func (d *dice) roll(n int) int {
	x := uint64(*d)
	x ^= x << 13
	x ^= x >> 7
	x ^= x << 17
	*d = dice(x)
	return int((x >> 11) % uint64(n))
}

// pick is one of a list.
func pick[T any](d *dice, l []T) T { return l[d.roll(len(l))] }

// deed is any one, of objects and generations near each other.
func (d *dice) deed(n int) deed {
	object := d.roll(objects)
	if d.roll(3) > 0 {
		object = pick(d, []int{0, 1, 15})
	}
	if d.roll(20) == 0 {
		object = pick(d, wrong())
	}
	gen := d.roll(9)
	if d.roll(30) == 0 {
		gen = pick(d, []int{-1, math.MinInt, -1 << 32, 10, 12})
	}
	i := d.roll(70)
	if d.roll(8) == 0 {
		i = pick(d, edges())
	}
	out := deed{kind: pick(d, []int{bounds, bounds, binds, pieces, pieces, pieces, pieces, pieces, pieces, forgets, drops}), object: object, gen: gen, tag: pick(d, []string{"a", "a", "a", "b", ""}), length: 5 + d.roll(6)/5, tick: d.roll(8), i: i}
	if out.kind >= forgets && d.roll(3) > 0 {
		out.gen -= 5
	}
	return placed(out, n)
}

// TestPlays: P19.1 and P19.2 in long rows of deeds on all objects; each Index on the way tells at the end what it told.
func TestPlays(t *testing.T) {
	d := dice(2463534242)
	for range 60 {
		xs := []index.Index{{}}
		var row []deed
		for n := range 120 {
			next := d.deed(1 + n)
			row = append(row, next)
			xs = append(xs, do(xs[n], next))
			if n%3 > 0 {
				continue
			}
			holds(t, fmt.Sprintf("%d deeds, the last one %v", len(row), next), xs[n+1], papers(row))
		}
		for n := 0; n < len(xs); n += 7 {
			holds(t, fmt.Sprintf("%d deeds, told again", n), xs[n], papers(row[:n]))
		}
	}
}

// TestForks: P19.1, where several are made of each: each goes its own way.
func TestForks(t *testing.T) {
	d := dice(88172645463325252)
	for range 30 {
		xs, rows := []index.Index{index.New(), behind(full()...)}, [][]deed{nil, full()}
		for n := range 120 {
			from := d.roll(len(xs))
			next := d.deed(1 + n)
			xs = append(xs, do(xs[from], next))
			rows = append(rows, append(slices.Clip(rows[from]), next))
		}
		for k := range xs {
			holds(t, fmt.Sprint("a fork of ", len(rows[k])), xs[k], papers(rows[k]))
		}
		for range 300 {
			a, b := d.roll(len(xs)), d.roll(len(xs))
			if got, want := index.Same(xs[a], xs[b]), alike(papers(rows[a]), papers(rows[b])); got != want {
				t.Fatalf("Same %v, not %v:\n%v\n%v", got, want, rows[a], rows[b])
			}
		}
	}
}

// TestSamePairs: P19.3: Same is true just if all that P19.2 tells is alike.
func TestSamePairs(t *testing.T) {
	var xs []index.Index
	var ls [][objects]told
	var deeds []deed
	for k, d := range slices.Concat(wide(3), []deed{own(0).bound(2, "a", 5, 5, 0), own(0).forget(1, 0), own(15).bound(2, "a", 5, 5, 0), own(15).forget(1, 0)}) {
		deeds = append(deeds, d, placed(d, 1+k%2))
	}
	var walk func(x index.Index, depth int)
	walk = func(x index.Index, depth int) {
		xs, ls = append(xs, x), append(ls, all(x))
		for _, d := range deeds {
			if depth > 0 {
				walk(do(x, d), depth-1)
			}
		}
	}
	walk(index.New(), 1)
	walk(behind(own(3).bound(2, "a", 5, 5, 1), own(3).piece(2, 0, 1)), 1)
	walk(behind(own(3).bound(3, "a", 5, 5, 1), own(3).piece(3, 0, 1), own(3).piece(3, 2, 1)), 1)
	walk(behind(own(3).forget(1, 1), own(0).forget(1, 0)), 2)
	sames := 0
	for k, x := range xs {
		for j, y := range xs {
			want := alike(ls[k], ls[j])
			if got := index.Same(x, y); got != want {
				t.Fatalf("Same %v of\n%+v\n%+v", got, ls[k], ls[j])
			}
			if want {
				sames++
			}
		}
	}
	if sames == len(xs) || sames == len(xs)*len(xs) {
		t.Fatal("the pairs are of one kind")
	}
}

// TestSameBut: P19.3: of each object one thing other than in the other one.
func TestSameBut(t *testing.T) {
	for object := range objects {
		o := own(object)
		others := slices.DeleteFunc(full(), func(d deed) bool { return d.object == object })
		base := []deed{o.forget(2, 1), o.bound(4, "a", 5, 5, 2), o.piece(4, 0, 3), o.piece(4, 9, 4)}
		// Each but the first is made by one thing other than base.
		rows := map[string][]deed{
			"base":              base,
			"nothing":           nil,
			"no floor":          base[1:],
			"another floor":     {o.forget(3, 1), base[1], base[2], base[3]},
			"another tomb":      {o.forget(2, 9), base[1], base[2], base[3]},
			"floor alone":       base[:1],
			"no slices":         base[:2],
			"one slice":         base[:3],
			"another slice":     {base[0], base[1], base[3]},
			"a slice more":      append(slices.Clip(base), o.piece(4, 1, 5)),
			"the last slice":    append(slices.Clip(base), o.piece(4, most, 5)),
			"a slice elsewhere": append(slices.Clip(base), o.piece(4, 9, 5)),
			"places turned":     {base[0], base[1], o.piece(4, 0, 4), o.piece(4, 9, 3)},
			"slices turned":     {base[0], base[1], o.piece(4, 1, 3), o.piece(4, 9, 4)},
			"another tick":      append(slices.Clip(base), o.bound(4, "a", 5, 6, 2)),
			"another place":     append(slices.Clip(base), o.bound(4, "a", 5, 5, 3)),
			"another tag":       {base[0], o.bound(4, "b", 5, 5, 2), base[2], base[3]},
			"another length":    {base[0], o.bound(4, "a", 6, 5, 2), base[2], base[3]},
			"another gen":       {base[0], o.bound(5, "a", 5, 5, 2), o.piece(5, 0, 3), o.piece(5, 9, 4)},
			"no bind":           {base[0], o.forget(4, 1)},
		}
		for _, beside := range [][]deed{nil, others} {
			for k, a := range rows {
				for j, b := range rows {
					x, y := do(behind(beside...), a...), do(behind(again(b)...), beside...)
					if got := index.Same(x, y); got != (k == j) {
						t.Fatalf("object %d: Same of %s and %s: %v", object, k, j, got)
					}
				}
			}
		}
	}
	// The same, but of another object.
	for a := range objects {
		for b := range objects {
			x, y := own(a), own(b)
			if got := index.Same(behind(x.bound(1, "a", 5, 5, 1)), behind(y.bound(1, "a", 5, 5, 1))); got != (a == b) {
				t.Fatal(a, b, got)
			}
			if got := index.Same(behind(x.forget(1, 1)), behind(y.forget(1, 1))); got != (a == b) {
				t.Fatal(a, b, got)
			}
		}
	}
}

// again is the same row in memory of its own, each piece of it told twice.
func again(row []deed) []deed {
	var out []deed
	for _, d := range row {
		d.tag = string([]byte(d.tag))
		out = append(out, d)
		if d.kind == pieces {
			out = append(out, d)
		}
	}
	return out
}

// TestSameWays: P19.3: what came about by other ways, and is told alike, is Same.
func TestSameWays(t *testing.T) {
	o := own(8)
	a, s, f := o.bound(4, "a", 5, 5, 2), o.piece(4, 7, 3), o.forget(2, 1)
	want := behind(f, a, s)
	for _, row := range [][]deed{
		{a, f, s}, {a, s, f}, {f, a, s, s}, {f, f, a, a, s}, {a, s, f, a, s, f}, {o.forget(1, 9), a, s, f},
		{o.bound(3, "b", 6, 9, 9), o.piece(3, 1, 9), f, a, s}, {f, a, o.piece(4, 7, 9), s}, {f, o.bound(4, "a", 5, 4, 9), s, a},
		{f, o.bound(4, "a", 5, 5, 9), s, a, o.bound(4, "a", 5, 4, 9), o.bound(4, "b", 5, 9, 9)}, {o.forget(2, 9), a, s, f, o.forget(1, 8)},
		{f, a, s, o.piece(4, -1, 9), o.piece(4, most+1, 9), o.piece(3, 7, 9), o.piece(5, 7, 9)},
		{f, a, s, own(16).bound(4, "a", 5, 5, 2), own(-1).forget(2, 1)},
	} {
		x := behind(row...)
		if !index.Same(x, want) || !index.Same(want, x) {
			t.Fatal(row)
		}
	}
	// Of what is gone nothing is left to tell apart.
	if !index.Same(behind(a, s, o.forget(9, 1)), behind(o.forget(9, 1))) || !index.Same(behind(a, s, o.bound(5, "a", 5, 5, 1)), behind(o.bound(5, "a", 5, 5, 1))) {
		t.Fatal("what is gone")
	}
}

// TestTwice: P19.3: a record that is told again, at the same place or elsewhere, with others between or without, changes nothing more, but places.
func TestTwice(t *testing.T) {
	o := own(5)
	var walk func(x index.Index, row []deed)
	walk = func(x index.Index, row []deed) {
		now := look(x, 5)
		for k, d := range row {
			// A slice that wasn't told of the bind of its time changed nothing: it may change something now.
			if d.kind == pieces && k < len(row)-1 && paper(row[:k], 5).bind.Gen != d.gen {
				continue
			}
			if got := look(do(x, d), 5); k == len(row)-1 && !got.like(now) {
				t.Fatalf("%v, the last one twice: %+v, not %+v", row, got, now)
			}
			y := do(x, placed(d, 9))
			if got := look(y, 5); !got.placeless().like(now.placeless()) {
				t.Fatalf("%v, and %v again: %+v, not %+v", row, d, got, now)
			}
			if !index.Same(y, do(y, placed(d, 9))) {
				t.Fatalf("%v, and %v again, and again", row, d)
			}
		}
		if len(row) == 3 {
			return
		}
		for _, d := range wide(o) {
			d = placed(d, 1+len(row))
			walk(do(x, d), append(slices.Clip(row), d))
		}
	}
	walk(index.New(), nil)

	// All of a row twice, and once more the other way round.
	row := full()
	x := behind(row...)
	if y := do(x, row...); !index.Same(x, y) {
		t.Fatal("a full one twice")
	}
	slices.Reverse(row)
	if y := do(x, row...); !index.Same(x, y) {
		t.Fatal("a full one, and back")
	}
}

// merged tells each way in which rows can be laid one among the other, each in its order.
func merged(rows [][]deed, tell func([]deed)) {
	var walk func(left [][]deed, out []deed)
	walk = func(left [][]deed, out []deed) {
		over := true
		for k, row := range left {
			if len(row) == 0 {
				continue
			}
			over = false
			next := slices.Clone(left)
			next[k] = row[1:]
			walk(next, append(slices.Clip(out), row[0]))
		}
		if over {
			tell(out)
		}
	}
	walk(rows, nil)
}

// TestAnyOrder: P19.3: records of different objects in any order give the Same.
func TestAnyOrder(t *testing.T) {
	rows := [][]deed{
		{own(0).bound(2, "a", 5, 5, 1), own(0).piece(2, 1, 2), own(0).forget(1, 3)},
		{own(1).forget(3, 4), own(1).bound(4, "b", 6, 6, 5), own(1).piece(4, most, 6)},
		{own(15).bound(1, "a", 5, 5, 7), own(15).drop(1), own(15).bind(2, "c", 0, 0)},
	}
	want := papers(slices.Concat(rows...))
	first := behind(slices.Concat(rows...)...)
	ways := 0
	merged(rows, func(row []deed) {
		x := behind(row...)
		if !index.Same(x, first) || !index.Same(first, x) || !alike(all(x), want) {
			t.Fatal(row)
		}
		ways++
	})
	if ways != 1680 {
		t.Fatal(ways)
	}
	// Long rows, thrown together by dice.
	d := dice(362436069)
	for range 60 {
		var row []deed
		for n := range 80 {
			row = append(row, d.deed(1+n))
		}
		x := behind(row...)
		left := slices.Clone(row)
		var other []deed
		for len(left) > 0 {
			object := pick(&d, left).object
			k := slices.IndexFunc(left, func(d deed) bool { return d.object == object })
			other = append(other, left[k])
			left = slices.Delete(left, k, k+1)
		}
		if y := behind(other...); !index.Same(x, y) || !alike(all(y), papers(row)) {
			t.Fatalf("%v\n%v", row, other)
		}
	}
	// Slices of one generation, too, and what is forgotten of it lower.
	o := own(7)
	slicesOf := [][]deed{{o.piece(4, 1, 1)}, {o.piece(4, 0, 2)}, {o.piece(4, most, 3)}, {o.forget(2, 4)}, {o.forget(1, 5)}, {o.bound(3, "b", 5, 5, 6)}}
	base := behind(o.bound(4, "a", 5, 5, 9))
	whole := do(base, slices.Concat(slicesOf...)...)
	merged(slicesOf, func(row []deed) {
		if !index.Same(do(base, row...), whole) {
			t.Fatal(row)
		}
	})
}

// TestNeverChanges: an Index that any of the calls was given tells afterwards what it told before.
func TestNeverChanges(t *testing.T) {
	for _, row := range [][]deed{nil, {own(3).bound(2, "a", 5, 5, 1)}, {own(3).bound(2, "a", 5, 5, 1), own(3).piece(2, 0, 1), own(3).piece(2, 1, 2)}, {own(3).forget(1, 1)}, full()} {
		x := behind(row...)
		want := papers(row)
		twin := x
		for _, object := range []int{0, 3, 15, -1, 16} {
			for k, d := range slices.Concat(wide(own(object)), []deed{own(object).bound(9, "z", 9, 9, 0), own(object).piece(3, 1, 0), own(object).forget(9, 0)}) {
				y := do(x, placed(d, 20+k))
				for _, then := range wide(own(object)) {
					do(y, placed(then, 60))
				}
				index.Same(x, y)
				index.Same(y, x)
				if !alike(all(x), want) || !index.Same(x, twin) {
					t.Fatalf("%v has changed %v", d, row)
				}
			}
		}
		holds(t, fmt.Sprint("behind all, ", row), x, want)
		holds(t, fmt.Sprint("its twin, ", row), twin, want)
	}
}

// TestWhileOthersAreMade: an Index that several have at the same time tells each of them the same, while they make others of it.
func TestWhileOthersAreMade(t *testing.T) {
	x, want := behind(full()...), papers(full())
	wrongs := make([]string, 8)
	var wait sync.WaitGroup
	for k := range wrongs {
		wait.Go(func() {
			d := dice(1000003 * (k + 1))
			y := x
			for n := range 200 {
				y = do(y, d.deed(n))
				z := do(x, own(d.roll(objects)).piece(3, d.roll(9), n))
				if !alike(all(x), want) || index.Same(z, x) && !alike(all(z), want) {
					wrongs[k] = fmt.Sprint("it has changed at deed ", n)
				}
			}
		})
	}
	wait.Wait()
	for _, w := range wrongs {
		if w != "" {
			t.Fatal(w)
		}
	}
	holds(t, "behind all", x, want)
}

// spoil writes over all that a list has room for.
func spoil[T any](l []T, x T) {
	l = l[:cap(l)]
	for i := range l {
		l[i] = x
	}
}

// TestMemory: P2: what is handed out is nobody's afterwards.
func TestMemory(t *testing.T) {
	row := full()
	x, want := behind(row...), papers(row)
	y := do(x, own(3).piece(3, 5, 9))
	for object := range objects {
		a, b, c := x.Places(object), x.Places(object), y.Places(object)
		spoil(a, api.Addr{Segment: -1, Page: -1})
		if !slices.Equal(b, want[object].places) || !slices.Equal(x.Places(object), b) || len(c) < len(b) || slices.Contains(c, api.Addr{Segment: -1, Page: -1}) {
			t.Fatal("Places share memory", object)
		}
		l := x.Slices(object).List()
		spoil(l, 17)
	}
	a, b := x.Objects(), x.Objects()
	spoil(a, 77)
	if len(b) != objects || slices.Contains(b, 77) || !slices.Equal(x.Objects(), b) || !slices.Equal(y.Objects(), b) {
		t.Fatal("Objects share memory")
	}
	holds(t, "behind what was handed out", x, want)
	holds(t, "what was made of it", y, papers(append(row, own(3).piece(3, 5, 9))))
	// A Map that was handed out is a value of its own.
	m := x.Slices(3)
	kept := m
	x.Piece(3, 3, 99, api.Addr{})
	x.Forget(3, 3, api.Addr{})
	if m.With(99) == kept || m != kept {
		t.Fatal("Slices has changed")
	}
}
