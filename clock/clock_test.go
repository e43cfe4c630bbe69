package clock_test

import (
	"fmt"
	"math"
	"slices"
	"testing"

	"spence/clock"
)

// objects is how many objects there may be, told by hand.
const objects = 16

// dice are numbers without a short rule in them, the same each time.
type dice uint64

func (d *dice) roll(n int) int {
	x := uint64(*d)
	x ^= x << 13
	x ^= x >> 7
	x ^= x << 17
	*d = dice(x)
	return int((x >> 11) % uint64(n))
}

// never are objects that may not be.
func never() []int {
	return []int{-1, -2, -15, -16, -17, 16, 17, 31, 32, 48, 255, 256, 1 << 16, 1 << 32, 1<<32 + 1, -1 << 32, 1 << 62, math.MaxInt - 1, math.MaxInt, math.MinInt, math.MinInt + 1, math.MinInt + 16}
}

// count are the numbers from from to to less 1.
func count(from, to int) []int {
	var out []int
	for i := from; i < to; i++ {
		out = append(out, i)
	}
	return out
}

// A deed is one call that answers a Ring.
type deed struct {
	kind   string
	object int
}

func add(object int) deed    { return deed{"Add", object} }
func touch(object int) deed  { return deed{"Touch", object} }
func remove(object int) deed { return deed{"Remove", object} }
func victim() deed           { return deed{"Victim", 0} }

func (x deed) String() string {
	if x.kind == "Victim" {
		return x.kind
	}
	return fmt.Sprintf("%s(%d)", x.kind, x.object)
}

// told is what a deed's Ring was told with: of a Victim alone it isn't 0, false.
type told struct {
	object int
	is     bool
}

// do is the deed on a Ring.
func (x deed) do(r clock.Ring) (clock.Ring, told) {
	switch x.kind {
	case "Add":
		return r.Add(x.object), told{}
	case "Touch":
		return r.Touch(x.object), told{}
	case "Remove":
		return r.Remove(x.object), told{}
	}
	object, n, is := r.Victim()
	return n, told{object, is}
}

// paper is an independent telling of what P24.1 to P24.3 say. It has no row and no marks, but moments: the one at which an object came to the row's end, and the one at which it was Touched last; 0 is never.
type paper struct {
	now            int
	stood, touched [objects]int
}

func (p *paper) moment() int {
	p.now++
	return p.now
}

func (p *paper) has(object int) bool {
	return object >= 0 && object < objects && p.stood[object] > 0
}

// marked is whether an object was Touched since its last turn.
func (p *paper) marked(object int) bool {
	return p.has(object) && p.touched[object] > p.stood[object]
}

// row are those that are there, by the moments at which they came to its end.
func (p *paper) row() []int {
	var out []int
	for object := range objects {
		if p.has(object) {
			out = append(out, object)
		}
	}
	slices.SortFunc(out, func(a, b int) int { return p.stood[a] - p.stood[b] })
	return out
}

// do is the deed on a paper that is its own.
func (x deed) tell(p paper) (paper, told) {
	switch {
	case x.kind == "Victim":
		return p.turned()
	case x.object < 0 || x.object >= objects:
	case x.kind == "Add":
		if !p.has(x.object) {
			p.stood[x.object], p.touched[x.object] = p.moment(), 0
		}
	case x.kind == "Touch":
		if p.has(x.object) {
			p.touched[x.object] = p.moment()
		}
	case x.kind == "Remove":
		p.stood[x.object], p.touched[x.object] = 0, 0
	}
	return p, told{}
}

// turned: the victim is the first one that wasn't Touched, and those ahead of it come to the end in their order; if all were, all come to the end, and it is the first one.
func (p paper) turned() (paper, told) {
	row := p.row()
	if len(row) == 0 {
		return p, told{}
	}
	who, ahead := row[0], row
	if at := slices.IndexFunc(row, func(object int) bool { return !p.marked(object) }); at >= 0 {
		who, ahead = row[at], row[:at]
	}
	for _, object := range ahead {
		p.stood[object] = p.moment()
	}
	return p, told{who, true}
}

// fault is what one of a Ring's calls tells otherwise than the paper does; else "".
func fault(r clock.Ring, p paper) string {
	want := p.row()
	if got := r.All(); !slices.Equal(got, want) {
		return fmt.Sprintf("All %v, not %v", got, want)
	}
	if got := r.Len(); got != len(want) {
		return fmt.Sprintf("Len %d, not %d", got, len(want))
	}
	for object := -1; object <= objects; object++ {
		if got := r.Has(object); got != p.has(object) {
			return fmt.Sprintf("Has(%d) %v", object, got)
		}
		if got := r.Marked(object); got != p.marked(object) {
			return fmt.Sprintf("Marked(%d) %v", object, got)
		}
	}
	// Nothing of what was there before is left in it.
	if r != ringOf(want, slices.DeleteFunc(slices.Clone(want), func(object int) bool { return !p.marked(object) })) {
		return "another Ring than one that came to this row at once"
	}
	return ""
}

func holds(t *testing.T, how any, r clock.Ring, p paper) {
	t.Helper()
	if f := fault(r, p); f != "" {
		t.Fatalf("%v: %s", how, f)
	}
}

// step is a deed on both; what both tell must be the same.
func step(t *testing.T, how any, x deed, r clock.Ring, p paper) (clock.Ring, paper) {
	t.Helper()
	n, got := x.do(r)
	q, want := x.tell(p)
	if got != want {
		t.Fatalf("%v: %v: %v, not %v", how, x, got, want)
	}
	if x.kind == "Victim" {
		chance(t, how, p, got)
	}
	if f := fault(n, q); f != "" {
		t.Fatalf("%v: %v: %s", how, x, f)
	}
	if f := fault(r, p); f != "" {
		t.Fatalf("%v: %v: the Ring has changed: %s", how, x, f)
	}
	return n, q
}

// chance: P24.3 of a victim of the Ring of which the paper is.
func chance(t *testing.T, how any, p paper, got told) {
	t.Helper()
	if !got.is || !p.marked(got.object) {
		return
	}
	for _, object := range p.row() {
		if !p.marked(object) {
			t.Fatalf("%v: the victim is %d, that was Touched; %d wasn't", how, got.object, object)
		}
	}
}

// play are deeds on a Ring without any, one behind the other.
func play(t *testing.T, row ...deed) (clock.Ring, paper) {
	t.Helper()
	r, p := clock.New(), paper{}
	for i, x := range row {
		r, p = step(t, row[:i], x, r, p)
	}
	return r, p
}

// stands: who is in the row, and who of them is marked, told by hand.
func stands(t *testing.T, how string, r clock.Ring, row, marked []int) {
	t.Helper()
	if got := r.All(); !slices.Equal(got, row) || r.Len() != len(row) {
		t.Fatalf("%s: All %v, Len %d, not %v", how, got, r.Len(), row)
	}
	for _, object := range slices.Concat(count(-20, 40), never()) {
		if got := r.Has(object); got != slices.Contains(row, object) {
			t.Fatalf("%s: Has(%d) %v", how, object, got)
		}
		if got := r.Marked(object); got != slices.Contains(marked, object) {
			t.Fatalf("%s: Marked(%d) %v", how, object, got)
		}
	}
}

// falls: the victim, and what stands then, told by hand.
func falls(t *testing.T, how string, r clock.Ring, want int, row, marked []int) clock.Ring {
	t.Helper()
	object, n, is := r.Victim()
	if object != want || !is {
		t.Fatalf("%s: Victim %d, %v, not %d", how, object, is, want)
	}
	stands(t, how+", behind its Victim", n, row, marked)
	return n
}

// ringOf has these objects, of which those are marked.
func ringOf(row, marked []int) clock.Ring {
	r := clock.New()
	for _, object := range row {
		r = r.Add(object)
	}
	for _, object := range marked {
		r = r.Touch(object)
	}
	return r
}

// paperOf is the paper of ringOf.
func paperOf(row, marked []int) paper {
	var p paper
	for _, object := range row {
		p.stood[object] = p.moment()
	}
	for _, object := range marked {
		p.touched[object] = p.moment()
	}
	return p
}

// TestAdd: P24.1.
func TestAdd(t *testing.T) {
	r := clock.New()
	stands(t, "New", r, nil, nil)
	for _, object := range never() {
		stands(t, fmt.Sprint("Add of ", object), r.Add(object), nil, nil)
		stands(t, fmt.Sprint("Add of ", object, " to one"), r.Add(3).Add(object), []int{3}, nil)
		stands(t, fmt.Sprint("Add of ", object, " to one that is marked"), r.Add(0).Touch(0).Add(object), []int{0}, []int{0})
	}
	for object := range objects {
		stands(t, "Add to none", r.Add(object), []int{object}, nil)
		stands(t, "Add again", r.Add(object).Add(object), []int{object}, nil)
		stands(t, "Add of one that is marked", r.Add(object).Touch(object).Add(object), []int{object}, []int{object})
		stands(t, "Add of one that was there", r.Add(object).Remove(object).Add(object), []int{object}, nil)
		stands(t, "Add of one that was there, marked", r.Add(object).Touch(object).Remove(object).Add(object), []int{object}, nil)
	}
	r = r.Add(0).Add(15).Add(16).Add(-1).Add(7)
	stands(t, "0, 15, 7", r, []int{0, 15, 7}, nil)
	stands(t, "Add of the first", r.Add(0), []int{0, 15, 7}, nil)
	stands(t, "Add of one between", r.Add(15), []int{0, 15, 7}, nil)
	stands(t, "Add of the last", r.Add(7), []int{0, 15, 7}, nil)
	stands(t, "Add of one that is marked", r.Touch(15).Add(15).Touch(0).Add(0), []int{0, 15, 7}, []int{0, 15})
	stands(t, "Add of one that was first", r.Remove(0).Add(0), []int{15, 7, 0}, nil)
	stands(t, "Add of one that was between, marked", r.Touch(15).Touch(7).Remove(15).Add(15), []int{0, 7, 15}, []int{7})
	stands(t, "Add of one that was last", r.Remove(7).Add(7), []int{0, 15, 7}, nil)
	stands(t, "Add of one more", r.Touch(7).Add(1), []int{0, 15, 7, 1}, []int{7})
	stands(t, "the Ring itself", r, []int{0, 15, 7}, nil)
}

// TestAllSixteen: P24.1 of the row that has all objects.
func TestAllSixteen(t *testing.T) {
	rows := [][]int{count(0, objects), count(0, objects), slices.Concat(count(9, objects), count(0, 9))}
	slices.Reverse(rows[1])
	for _, row := range rows {
		full := ringOf(row, nil)
		stands(t, "all", full, row, nil)
		stands(t, "all, marked", ringOf(row, row), row, row)
		for _, object := range slices.Concat(row, never()) {
			stands(t, fmt.Sprint("Add of ", object, " to all"), full.Add(object), row, nil)
		}
		for at, object := range row {
			how := fmt.Sprint(object)
			rest := slices.Delete(slices.Clone(row), at, at+1)
			stands(t, "Touch of "+how, full.Touch(object), row, []int{object})
			stands(t, "all but "+how, full.Remove(object), rest, nil)
			stands(t, "all but "+how+", marked", ringOf(row, row).Remove(object), rest, rest)
			stands(t, "all but "+how+", and it", ringOf(row, row).Remove(object).Add(object), slices.Concat(rest, []int{object}), rest)
			if object != row[0] {
				falls(t, "all but "+how, ringOf(row, rest), object, slices.Concat(row[at:], row[:at]), row[at+1:])
			}
			falls(t, "the first ones up to "+how, ringOf(row, row[:at]), object, slices.Concat(row[at:], row[:at]), nil)
		}
		falls(t, "all, none marked", full, row[0], row, nil)
		falls(t, "all, all marked", ringOf(row, row), row[0], row, nil)
		none := full
		for n, object := range row {
			none = none.Remove(object)
			stands(t, "from the first on", none, row[n+1:], nil)
		}
		none = full
		for n := len(row) - 1; n >= 0; n-- {
			none = none.Remove(row[n])
			stands(t, "from the last on", none, row[:n], nil)
		}
		for _, object := range row {
			stands(t, "none", none.Touch(object).Remove(object), nil, nil)
		}
	}
}

// TestMarksOfAll: P24.2 of all sixteen, each way in which they may be marked.
func TestMarksOfAll(t *testing.T) {
	row := slices.Concat(count(11, objects), count(0, 11))
	for bits := range 1 << objects {
		var marked []int
		for object := range objects {
			if bits>>object&1 == 1 {
				marked = append(marked, object)
			}
		}
		got, n, is := ringOf(row, marked).Victim()
		p, want := paperOf(row, marked).turned()
		if got != want.object || is != want.is {
			t.Fatalf("%v: Victim %d, %v, not %d", marked, got, is, want.object)
		}
		holds(t, marked, n, p)
	}
}

// TestTouch: P24.1.
func TestTouch(t *testing.T) {
	r := ringOf([]int{4, 0, 15}, nil)
	for _, object := range []int{4, 0, 15} {
		stands(t, "Touch", r.Touch(object), []int{4, 0, 15}, []int{object})
		stands(t, "Touch again", r.Touch(object).Touch(object), []int{4, 0, 15}, []int{object})
	}
	stands(t, "Touch of all", r.Touch(15).Touch(4).Touch(0), []int{4, 0, 15}, []int{0, 4, 15})
	for _, object := range slices.Concat([]int{1, 3, 5, 14}, never()) {
		how := fmt.Sprint("Touch of ", object)
		stands(t, how, r.Touch(object), []int{4, 0, 15}, nil)
		stands(t, how+", to none", clock.New().Touch(object), nil, nil)
		stands(t, how+", then Add", clock.New().Touch(object).Add(2), []int{2}, nil)
	}
	for object := range objects {
		stands(t, "Touch of one that isn't there, then Add of it", clock.New().Touch(object).Add(object), []int{object}, nil)
		stands(t, "Touch of one that is gone", clock.New().Add(object).Remove(object).Touch(object), nil, nil)
		stands(t, "Touch of one that is gone, then Add of it", clock.New().Add(object).Remove(object).Touch(object).Add(object), []int{object}, nil)
	}
	stands(t, "the Ring itself", r, []int{4, 0, 15}, nil)
}

// TestRemove: P24.1.
func TestRemove(t *testing.T) {
	row := []int{4, 0, 15, 9}
	r := ringOf(row, []int{0, 9})
	stands(t, "Remove of the first", r.Remove(4), []int{0, 15, 9}, []int{0, 9})
	stands(t, "Remove of one between, marked", r.Remove(0), []int{4, 15, 9}, []int{9})
	stands(t, "Remove of one between", r.Remove(15), []int{4, 0, 9}, []int{0, 9})
	stands(t, "Remove of the last, marked", r.Remove(9), []int{4, 0, 15}, []int{0})
	stands(t, "Remove again", r.Remove(9).Remove(9), []int{4, 0, 15}, []int{0})
	stands(t, "Remove of three", r.Remove(0).Remove(4).Remove(9), []int{15}, nil)
	stands(t, "Remove of all", r.Remove(15).Remove(0).Remove(4).Remove(9), nil, nil)
	for _, object := range slices.Concat([]int{1, 3, 5, 14}, never()) {
		how := fmt.Sprint("Remove of ", object)
		stands(t, how, r.Remove(object), row, []int{0, 9})
		stands(t, how+", of none", clock.New().Remove(object), nil, nil)
	}
	for object := range objects {
		stands(t, "Remove of the only one", clock.New().Add(object).Remove(object), nil, nil)
		stands(t, "Remove of the only one, marked", clock.New().Add(object).Touch(object).Remove(object), nil, nil)
		stands(t, "Remove of none", clock.New().Remove(object), nil, nil)
	}
	stands(t, "the Ring itself", r, row, []int{0, 9})
}

// TestVictim: P24.2, told by hand.
func TestVictim(t *testing.T) {
	for _, none := range []clock.Ring{{}, clock.New(), clock.New().Add(3).Touch(3).Remove(3), clock.New().Add(16), clock.New().Touch(0)} {
		if object, n, is := none.Victim(); object != 0 || is {
			t.Fatal("of none", object, is)
		} else {
			stands(t, "behind a Victim of none", n, nil, nil)
			stands(t, "behind a Victim of none, Add", n.Add(5).Touch(5), []int{5}, []int{5})
		}
	}
	for object := range objects {
		falls(t, "one", ringOf([]int{object}, nil), object, []int{object}, nil)
		falls(t, "one, marked", ringOf([]int{object}, []int{object}), object, []int{object}, nil)
	}
	row := []int{5, 0, 15, 8}
	for _, x := range []struct {
		marked []int
		want   int
		row    []int
		left   []int
	}{
		{nil, 5, row, nil},
		{[]int{5}, 0, []int{0, 15, 8, 5}, nil},
		{[]int{0}, 5, row, []int{0}},
		{[]int{15}, 5, row, []int{15}},
		{[]int{8}, 5, row, []int{8}},
		{[]int{5, 0}, 15, []int{15, 8, 5, 0}, nil},
		{[]int{5, 15}, 0, []int{0, 15, 8, 5}, []int{15}},
		{[]int{5, 8}, 0, []int{0, 15, 8, 5}, []int{8}},
		{[]int{0, 15}, 5, row, []int{0, 15}},
		{[]int{5, 0, 15}, 8, []int{8, 5, 0, 15}, nil},
		{[]int{5, 0, 8}, 15, []int{15, 8, 5, 0}, []int{8}},
		{[]int{5, 15, 8}, 0, []int{0, 15, 8, 5}, []int{8, 15}},
		{[]int{0, 15, 8}, 5, row, []int{0, 15, 8}},
		{[]int{5, 0, 15, 8}, 5, row, nil},
	} {
		how := fmt.Sprint(row, ", of which are marked ", x.marked)
		r := ringOf(row, x.marked)
		n := falls(t, how, r, x.want, x.row, x.left)
		for range 3 {
			n = falls(t, how+", again", n, x.want, x.row, x.left)
		}
		stands(t, how+", the Ring itself", r, row, x.marked)
		// The victim is first, and not marked: if it is Touched, it is the next one's turn.
		last := slices.Concat(x.row[1:], x.row[:1])
		if !slices.Contains(x.left, x.row[1]) {
			falls(t, how+", the victim Touched", n.Touch(x.want), x.row[1], last, x.left)
		}
		stands(t, how+", the victim gone", n.Remove(x.want), x.row[1:], x.left)
		stands(t, how+", the victim gone, and Added", n.Touch(x.want).Remove(x.want).Add(x.want), last, x.left)
	}
}

// TestBehindVictim: P24.1 and P24.2: the row goes from the hand on, so who is Added stands behind who was turned last.
func TestBehindVictim(t *testing.T) {
	r := falls(t, "1, 2, 3", ringOf([]int{1, 2, 3}, []int{1}), 2, []int{2, 3, 1}, nil)
	stands(t, "Add", r.Add(4), []int{2, 3, 1, 4}, nil)
	stands(t, "Add of who was turned", r.Add(1), []int{2, 3, 1}, nil)
	stands(t, "Touch of who was turned", r.Touch(1), []int{2, 3, 1}, []int{1})
	stands(t, "Remove of who was turned", r.Remove(1), []int{2, 3}, nil)
	stands(t, "Remove of who was turned, and Add", r.Remove(1).Add(0).Add(1), []int{2, 3, 0, 1}, nil)
	stands(t, "Remove of the victim", r.Remove(2), []int{3, 1}, nil)
	stands(t, "Remove of the victim, and Add", r.Remove(2).Add(2), []int{3, 1, 2}, nil)
	stands(t, "Remove of the last but one", r.Remove(3), []int{2, 1}, nil)
	n := falls(t, "4 Added, 2 and 3 Touched", r.Add(4).Touch(3).Touch(2), 1, []int{1, 4, 2, 3}, nil)
	n = falls(t, "1 Removed, 4 Touched", n.Remove(1).Touch(4), 2, []int{2, 3, 4}, nil)
	n = falls(t, "1 Added, Touched", n.Add(1).Touch(1).Touch(2).Touch(3), 4, []int{4, 1, 2, 3}, []int{1})
	n = falls(t, "4 Removed", n.Remove(4), 2, []int{2, 3, 1}, nil)
	stands(t, "at the end", n.Touch(1).Add(15), []int{2, 3, 1, 15}, []int{1})
}

// TestSecondChance: P24.3, told by hand: each victim is Removed, as room is made.
func TestSecondChance(t *testing.T) {
	for _, x := range []struct {
		marked, want []int
	}{
		{nil, []int{1, 2, 3, 4, 5}},
		{[]int{3}, []int{1, 2, 4, 5, 3}},
		{[]int{1}, []int{2, 3, 4, 5, 1}},
		{[]int{5}, []int{1, 2, 3, 4, 5}},
		{[]int{2, 1}, []int{3, 4, 5, 1, 2}},
		{[]int{1, 3, 5}, []int{2, 4, 1, 3, 5}},
		{[]int{1, 2, 4, 5}, []int{3, 1, 2, 4, 5}},
		{[]int{5, 4, 3, 2, 1}, []int{1, 2, 3, 4, 5}},
	} {
		r := ringOf([]int{1, 2, 3, 4, 5}, x.marked)
		var got []int
		for object, n, is := r.Victim(); is; object, n, is = r.Victim() {
			got = append(got, object)
			r = n.Remove(object)
		}
		if !slices.Equal(got, x.want) {
			t.Errorf("%v: %v, not %v", x.marked, got, x.want)
		}
	}
	// Who is Touched again and again stays for good, and each other one has its turn.
	r := ringOf([]int{6, 7, 8}, nil)
	for _, want := range []int{7, 8, 9, 10, 11} {
		object, n, is := r.Touch(6).Victim()
		if object != want || !is {
			t.Fatal(object, want)
		}
		r = n.Remove(object).Add(want + 2)
	}
	stands(t, "at the end", r, []int{12, 6, 13}, nil)
}

// TestZero: P1 and P24.1, P24.2 of the Ring that nobody made.
func TestZero(t *testing.T) {
	var r clock.Ring
	stands(t, "zero", r, nil, nil)
	if len(r.All()) != 0 || len(clock.New().All()) != 0 {
		t.Fatal("All of none")
	}
	for _, object := range slices.Concat(count(0, objects), never()) {
		for _, x := range []deed{add(object), touch(object), remove(object), victim()} {
			n, q := step(t, "zero", x, clock.Ring{}, paper{})
			for _, y := range []deed{add(object), add(3), touch(object), remove(object), victim()} {
				step(t, fmt.Sprint("zero, ", x), y, n, q)
			}
		}
	}
	p := paper{}
	for _, x := range []deed{touch(2), victim(), add(2), add(1), touch(2), victim(), add(3), remove(1), victim()} {
		r, p = step(t, "zero, by deeds", x, r, p)
	}
}

// deeds are those on some objects.
func deeds(on ...int) []deed {
	out := []deed{victim()}
	for _, object := range on {
		out = append(out, add(object), touch(object), remove(object))
	}
	return out
}

// TestRows: P24.1 to P24.3: all rows of seven deeds on two objects, of five on three, of four on five of which two may not be.
func TestRows(t *testing.T) {
	for _, x := range []struct {
		deep int
		on   []int
	}{{7, []int{0, 15}}, {5, []int{0, 7, 15}}, {4, []int{0, 15, 4, -1, 16}}} {
		var how []deed
		var on func(r clock.Ring, p paper)
		on = func(r clock.Ring, p paper) {
			if len(how) == x.deep {
				return
			}
			for _, d := range deeds(x.on...) {
				n, q := step(t, how, d, r, p)
				how = append(how, d)
				on(n, q)
				how = how[:len(how)-1]
			}
		}
		on(clock.New(), paper{})
	}
}

// orders are all rows of some of these objects.
func orders(l []int) [][]int {
	out := [][]int{nil}
	for at, object := range l {
		rest := slices.Delete(slices.Clone(l), at, at+1)
		for _, row := range orders(rest) {
			out = append(out, append([]int{object}, row...))
		}
	}
	return out
}

// TestEachRing: P24.1 to P24.3: each row of five objects at the most, each way in which they may be marked, and each deed on it.
func TestEachRing(t *testing.T) {
	some := []int{15, 0, 7, 8, 1}
	for _, row := range orders(some) {
		for bits := range 1 << len(row) {
			var marked []int
			for at, object := range row {
				if bits>>at&1 == 1 {
					marked = append(marked, object)
				}
			}
			r, p := ringOf(row, marked), paperOf(row, marked)
			how := fmt.Sprint(row, ", of which are marked ", marked)
			for _, x := range append(deeds(some...), deeds(-1, 2, 16)[1:]...) {
				n, q := step(t, how, x, r, p)
				if x == victim() {
					step(t, how+", Victim", x, n, q)
				}
			}
		}
	}
}

// some deed, by dice; kinds has one letter for each lot.
func (d *dice) deed(kinds string, on int) deed {
	object := d.roll(on)
	if d.roll(20) == 0 {
		object = never()[d.roll(len(never()))]
	}
	switch kinds[d.roll(len(kinds))] {
	case 'a':
		return add(object)
	case 't':
		return touch(object)
	case 'r':
		return remove(object)
	}
	return victim()
}

// TestPlays: P24.1 to P24.3 of long rows of deeds, on few objects and on all; each Ring that was is asked again afterwards.
func TestPlays(t *testing.T) {
	d := dice(88172645463325252)
	for _, kinds := range []string{"atrv", "aaattv", "aattttvv", "aaattttttttvr", "aaarv", "aavvvvt"} {
		for _, on := range []int{1, 2, 3, 5, 9, objects} {
			r, p := clock.New(), paper{}
			var rings []clock.Ring
			var papers []paper
			var how []deed
			for range 600 {
				x := d.deed(kinds, on)
				how = append(how[max(0, len(how)-30):], x)
				r, p = step(t, how, x, r, p)
				rings, papers = append(rings, r), append(papers, p)
			}
			for i, old := range rings {
				holds(t, fmt.Sprint(kinds, on, ", ring ", i, " afterwards"), old, papers[i])
			}
		}
	}
}

// TestForks: P2 and P24.1, P24.2: Rings that are made of the same one go their own ways, and it stays.
func TestForks(t *testing.T) {
	d := dice(7046029254386353131)
	rings, papers := []clock.Ring{{}}, []paper{{}}
	for range 6000 {
		from := d.roll(len(rings))
		x := d.deed("aaattv", objects)
		if d.roll(3) == 0 {
			x = d.deed("tvr", objects)
		}
		n, q := step(t, "fork", x, rings[from], papers[from])
		if len(rings) < 500 {
			rings, papers = append(rings, n), append(papers, q)
		} else {
			at := d.roll(len(rings))
			rings[at], papers[at] = n, q
		}
	}
	for i, r := range rings {
		holds(t, fmt.Sprint("ring ", i, " afterwards"), r, papers[i])
	}
	// Two of the same one, by each pair of deeds.
	for _, row := range [][]int{nil, {3}, {3, 9}, {9, 0, 3, 15}, count(0, objects)} {
		r, p := ringOf(row, row[:len(row)/2]), paperOf(row, row[:len(row)/2])
		for _, x := range deeds(3, 9, 12) {
			for _, y := range deeds(3, 9, 12) {
				a, ap := step(t, row, x, r, p)
				b, bp := step(t, row, y, r, p)
				how := fmt.Sprint(row, ": ", x, " and ", y)
				a2, ap2 := step(t, how, y, a, ap)
				b2, bp2 := step(t, how, x, b, bp)
				holds(t, how, r, p)
				holds(t, how, a, ap)
				holds(t, how, b, bp)
				holds(t, how, a2, ap2)
				holds(t, how, b2, bp2)
			}
		}
	}
}

// TestNobodys: P2: what All hands out is nobody's afterwards.
func TestNobodys(t *testing.T) {
	for _, row := range [][]int{nil, {3}, {9, 0, 3, 15}, count(0, objects)} {
		r := ringOf(row, row)
		_, n, _ := r.Victim()
		l, again, behind := r.All(), r.All(), n.All()
		spoil(l, 77)
		_ = append(l, 78)
		stands(t, "spoiled", r, row, row)
		stands(t, "spoiled, behind a Victim", n, row, nil)
		if !slices.Equal(again, row) || !slices.Equal(behind, row) {
			t.Fatal(again, behind, row)
		}
		spoil(behind, 79)
		stands(t, "spoiled", r, row, row)
		stands(t, "spoiled, behind a Victim", n, row, nil)
		if !slices.Equal(again, row) {
			t.Fatal(again, row)
		}
	}
}

// TestSame: P3: the same deeds make a Ring that tells the same.
func TestSame(t *testing.T) {
	row := []deed{add(1), add(2), touch(1), victim(), add(0), touch(2), touch(1), remove(0), victim(), add(15), touch(15)}
	r, p := play(t, row...)
	o, q := play(t, row...)
	holds(t, row, r, q)
	holds(t, row, o, p)
	stands(t, "by hand", r, []int{2, 1, 15}, []int{15})
}

// spoil writes over all that a list has room for.
func spoil(l []int, x int) {
	l = l[:cap(l)]
	for i := range l {
		l[i] = x
	}
}
