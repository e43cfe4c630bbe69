package bitmap_test

import (
	"fmt"
	"math"
	"slices"
	"testing"

	"spence/api"
	"spence/bitmap"
)

// most is the greatest number that may be there, told by hand.
const most = 4096

// dice are numbers without a short rule in them, the same each time.
type dice uint64

func (d *dice) roll(n int) int {
	x := uint64(*d)
	x ^= x << 13
	x ^= x >> 7
	x ^= x << 17
	*d = dice(x)
	return int((x >> 11) % uint64(n))
}

// short is a list, in a line that isn't too long.
func short[T any](l []T) string {
	if len(l) > 60 {
		return fmt.Sprintf("%v and on to %v", l[:60], l[len(l)-1])
	}
	return fmt.Sprint(l)
}

// row is an independent paper of what a Map has: a bool for each number that may be.
type row [most + 1]bool

func rowOf(l []int) *row {
	var r row
	for _, i := range l {
		if i >= 0 && i <= most {
			r[i] = true
		}
	}
	return &r
}

func (r *row) list() []int {
	var out []int
	for i, there := range r {
		if there {
			out = append(out, i)
		}
	}
	return out
}

// runs are told by the places at which neighbours differ.
func (r *row) runs(from, to int) []api.Run {
	if from < 0 {
		from = 0
	}
	if to > most+1 {
		to = most + 1
	}
	var out []api.Run
	for first := from; first < to; {
		behind := first + 1
		for behind < to && r[behind] == r[first] {
			behind++
		}
		out = append(out, api.Run{From: first, To: behind, Cached: r[first]})
		first = behind
	}
	return out
}

func (r *row) both(o *row, join func(a, b bool) bool) *row {
	var out row
	for i := range r {
		out[i] = join(r[i], o[i])
	}
	return &out
}

func either(a, b bool) bool  { return a || b }
func each(a, b bool) bool    { return a && b }
func lacking(a, b bool) bool { return a && !b }

// edges are the numbers at which words and the row begin and end.
func edges() []int { return []int{0, 1, 63, 64, 65, 127, 128, 4031, 4032, 4095, 4096} }

// never are numbers that are never there.
func never() []int {
	return []int{-1, -2, -63, -64, -65, -4096, -4097, 4097, 4098, 4159, 4160, 4161, 8192, 8193, 1 << 16, 1 << 32, 1<<32 + 1, -1 << 32, 1 << 62, math.MaxInt - 1, math.MaxInt, math.MinInt, math.MinInt + 1, math.MinInt + 64}
}

// count are the numbers from from to to less 1.
func count(from, to int) []int {
	var out []int
	for i := from; i < to; i++ {
		out = append(out, i)
	}
	return out
}

func reversed(l []int) []int {
	out := slices.Clone(l)
	slices.Reverse(out)
	return out
}

// lists are ordinary ones, and those that the edges ask for.
func lists() [][]int {
	l := [][]int{
		nil, {}, {0}, {5}, {1, 2}, {5, 1, 4096, -1, 4097, 64}, {7, 7, 7}, {3, 1, 3, 1, 2, 2}, {9, 8, 7, 6}, {4096, 0}, {-1}, {4097}, {4096, 4096, 4097, 4097, -1, -1},
		count(0, most+1), count(-70, most+100), reversed(count(0, most+1)), slices.Concat(count(0, most+1), count(0, most+1)),
		count(1, most+1), count(0, most), count(0, 64), count(64, 128), count(1, 65), count(63, 129), count(4032, most+1), count(4033, most+1), count(2000, 2100),
		edges(), reversed(edges()), never(), slices.Concat(never(), edges(), never()),
	}
	var even, odd, third []int
	for i := range most + 1 {
		if i%2 == 0 {
			even = append(even, i)
		} else {
			odd = append(odd, i)
		}
		if i%3 == 1 {
			third = append(third, i)
		}
	}
	l = append(l, even, odd, third, slices.Concat(odd, even))
	for _, i := range edges() {
		l = append(l, []int{i}, []int{i - 1, i, i + 1}, []int{i - 1, i + 1}, []int{i, i + 1}, []int{i - 1, i})
	}
	for _, i := range never() {
		l = append(l, []int{i}, []int{i, 3})
	}
	d := dice(88172645463325252)
	for n := range 60 {
		var some []int
		for range d.roll(1 + n*n) {
			some = append(some, d.roll(most+200)-100)
		}
		l = append(l, some)
	}
	// Rows of neighbours, here and there.
	for range 30 {
		var some []int
		for range d.roll(12) {
			from := d.roll(most + 1)
			some = append(some, count(from, from+d.roll(200))...)
		}
		l = append(l, some)
	}
	return l
}

// fault is what one of a Map's calls tells otherwise than that it has just these numbers, which are rising; else "".
func fault(m bitmap.Map, want []int) string {
	if got := m.List(); !slices.Equal(got, want) {
		return "List " + short(got) + ", not " + short(want)
	}
	if got := m.Len(); got != len(want) {
		return fmt.Sprintf("Len %d, not %d", got, len(want))
	}
	if got := slices.Collect(m.All()); !slices.Equal(got, want) {
		return "All " + short(got) + ", not " + short(want)
	}
	if m != bitmap.Of(want...) {
		return "not == Of(" + short(want) + ")"
	}
	return ""
}

func holds(t *testing.T, how string, m bitmap.Map, want []int) {
	t.Helper()
	if f := fault(m, want); f != "" {
		t.Fatalf("%s: %s", how, f)
	}
}

// TestOf: P18.1.
func TestOf(t *testing.T) {
	for _, l := range lists() {
		how, r := "Of("+short(l)+")", rowOf(l)
		m := bitmap.Of(l...)
		holds(t, how, m, r.list())
		for i := -200; i <= most+200; i++ {
			want := i >= 0 && i <= most && r[i]
			if got := m.Has(i); got != want {
				t.Fatalf("%s: Has(%d) %v", how, i, got)
			}
		}
		for _, i := range never() {
			if m.Has(i) {
				t.Fatalf("%s: Has(%d)", how, i)
			}
		}
	}
}

// TestByHand: P18.1 to P18.3 of a few Maps, told by hand.
func TestByHand(t *testing.T) {
	m := bitmap.Of(5, 1, 4096, -1, 4097, 64, 5)
	if got := m.List(); !slices.Equal(got, []int{1, 5, 64, 4096}) || m.Len() != 4 {
		t.Fatal(got, m.Len())
	}
	if got := m.Without(5).With(0).List(); !slices.Equal(got, []int{0, 1, 64, 4096}) {
		t.Fatal(got)
	}
	if got := bitmap.Or(bitmap.Of(1, 3), bitmap.Of(2, 3)); got != bitmap.Of(1, 2, 3) {
		t.Fatal(got.List())
	}
	if got := bitmap.And(bitmap.Of(1, 3), bitmap.Of(2, 3)); got != bitmap.Of(3) {
		t.Fatal(got.List())
	}
	if !bitmap.Within(bitmap.Of(3), bitmap.Of(2, 3)) || bitmap.Within(bitmap.Of(2, 3), bitmap.Of(3)) {
		t.Fatal("Within")
	}
	for _, x := range []struct {
		l        []int
		from, to int
		want     []api.Run
	}{
		{[]int{1, 2}, 0, 4, []api.Run{{From: 0, To: 1}, {From: 1, To: 3, Cached: true}, {From: 3, To: 4}}},
		{[]int{1, 2}, -3, 4, []api.Run{{From: 0, To: 1}, {From: 1, To: 3, Cached: true}, {From: 3, To: 4}}},
		{[]int{1, 2}, 1, 3, []api.Run{{From: 1, To: 3, Cached: true}}},
		{[]int{1, 2}, 2, 3, []api.Run{{From: 2, To: 3, Cached: true}}},
		{[]int{1, 2}, 3, 4, []api.Run{{From: 3, To: 4}}},
		{[]int{1, 2}, 3, 3, nil},
		{[]int{1, 2}, 3, 1, nil},
		{[]int{0, 4096}, -1, 5000, []api.Run{{From: 0, To: 1, Cached: true}, {From: 1, To: 4096}, {From: 4096, To: 4097, Cached: true}}},
		{nil, 0, 4097, []api.Run{{From: 0, To: 4097}}},
		{count(0, 4097), 0, 4097, []api.Run{{From: 0, To: 4097, Cached: true}}},
		{[]int{2, 4}, 1, 6, []api.Run{{From: 1, To: 2}, {From: 2, To: 3, Cached: true}, {From: 3, To: 4}, {From: 4, To: 5, Cached: true}, {From: 5, To: 6}}},
	} {
		if got := bitmap.Runs(bitmap.Of(x.l...), x.from, x.to); !slices.Equal(got, x.want) {
			t.Errorf("Runs(%s, %d, %d): %v, not %v", short(x.l), x.from, x.to, got, x.want)
		}
	}
}

// TestZero: P1 and P18.1 to P18.3 of the Map that nobody made.
func TestZero(t *testing.T) {
	var m bitmap.Map
	if m != bitmap.Of() || m != bitmap.Of([]int{}...) || m != bitmap.Of(nil...) || m != bitmap.Of(-1, 4097) {
		t.Fatal("Of without any")
	}
	holds(t, "the zero Map", m, nil)
	holds(t, "its own Or", bitmap.Or(m, m), nil)
	holds(t, "its own And", bitmap.And(m, m), nil)
	if !bitmap.Within(m, m) || len(m.List()) != 0 {
		t.Fatal("the zero Map in itself")
	}
	for _, l := range lists() {
		o := bitmap.Of(l...)
		if bitmap.Or(m, o) != o || bitmap.Or(o, m) != o || bitmap.And(m, o) != m || bitmap.And(o, m) != m {
			t.Fatalf("Or and And with %s", short(l))
		}
		if !bitmap.Within(m, o) || bitmap.Within(o, m) != (o.Len() == 0) {
			t.Fatalf("Within with %s", short(l))
		}
	}
	for _, i := range slices.Concat(edges(), never()) {
		if m.Has(i) || m.Without(i) != m {
			t.Fatal(i)
		}
	}
	if got := bitmap.Runs(m, 3, 9); !slices.Equal(got, []api.Run{{From: 3, To: 9}}) {
		t.Fatal(got)
	}
}

// TestWith: P18.1, of numbers that are there, that aren't, and that never are.
func TestWith(t *testing.T) {
	for _, l := range lists() {
		m, r := bitmap.Of(l...), rowOf(l)
		before := m
		for _, i := range slices.Concat(edges(), never(), []int{2, 5, 62, 66, 126, 129, 2050, 4033, 4094}) {
			how := fmt.Sprintf("Of(%s), %d", short(l), i)
			with, without := *r, *r
			if i >= 0 && i <= most {
				with[i], without[i] = true, false
			}
			a, b := m.With(i), m.Without(i)
			holds(t, how+" With", a, with.list())
			holds(t, how+" Without", b, without.list())
			if a.Has(i) != (i >= 0 && i <= most) || b.Has(i) {
				t.Fatalf("%s: With has it: %v, Without: %v", how, a.Has(i), b.Has(i))
			}
			if (a == m) != (with == *r) || (b == m) != (without == *r) {
				t.Fatalf("%s: == of what is as it was", how)
			}
			if a.With(i) != a || b.Without(i) != b || a.Without(i) != b || b.With(i) != a {
				t.Fatalf("%s: there and back", how)
			}
			if m != before {
				t.Fatalf("%s: the Map has changed", how)
			}
		}
		holds(t, short(l), m, r.list())
	}
}

// TestAlone: P18.1, each number that may be there alone, with its neighbours, and these without it.
func TestAlone(t *testing.T) {
	all := bitmap.Of(count(0, most+1)...)
	for i := range most + 1 {
		m := bitmap.Of(i)
		if !slices.Equal(m.List(), []int{i}) || m.Len() != 1 || !m.Has(i) || m.Has(i-1) || m.Has(i+1) || m.Has(i+64) || m.Has(i-64) {
			t.Fatal(i, m.List())
		}
		three := m.With(i - 1).With(i + 1)
		if three != bitmap.Of(i+1, i, i-1) || three.Without(i) != bitmap.Of(i-1, i+1) || three.Without(i).Without(i+1).Without(i-1) != (bitmap.Map{}) {
			t.Fatal(i, three.List())
		}
		but := all.Without(i)
		if but.Len() != most || but.Has(i) || but == all || but.With(i) != all {
			t.Fatal("all but", i)
		}
		if bitmap.Or(but, m) != all || bitmap.And(but, m) != (bitmap.Map{}) || bitmap.Within(m, but) || !bitmap.Within(m, all) || !bitmap.Within(but, all) || bitmap.Within(all, but) {
			t.Fatal("all but", i, "and it")
		}
		got := bitmap.Runs(m, i-1, i+2)
		var want []api.Run
		if i > 0 {
			want = append(want, api.Run{From: i - 1, To: i})
		}
		want = append(want, api.Run{From: i, To: i + 1, Cached: true})
		if i < most {
			want = append(want, api.Run{From: i + 1, To: i + 2})
		}
		if !slices.Equal(got, want) {
			t.Fatal(i, got)
		}
	}
}

// TestLeft: P5 and P18.1: All may be left, and gone through again.
func TestLeft(t *testing.T) {
	for _, l := range lists() {
		m, want := bitmap.Of(l...), rowOf(l).list()
		seq := m.All()
		for _, stop := range []int{0, 1, 2, len(want) / 2, len(want) - 2, len(want) - 1} {
			if stop < 0 || stop >= len(want) {
				continue
			}
			var got []int
			for i := range seq {
				got = append(got, i)
				if len(got) > stop {
					break
				}
			}
			if !slices.Equal(got, want[:stop+1]) {
				t.Fatalf("%s: left behind %d: %s", short(l), stop, short(got))
			}
		}
		for range 2 {
			if got := slices.Collect(seq); !slices.Equal(got, want) {
				t.Fatalf("%s: again: %s", short(l), short(got))
			}
		}
		told := 0
		seq(func(int) bool { told++; return false })
		if told != min(1, len(want)) {
			t.Fatalf("%s: told %d behind a no", short(l), told)
		}
	}
	// Within itself.
	m := bitmap.Of(3, 64, 4096)
	seq := m.All()
	var got []int
	for i := range seq {
		for k := range seq {
			if k > i {
				break
			}
			got = append(got, i*10000+k)
		}
		// The Map of which it tells is the one that it was made of.
		m = m.Without(64).With(i + 1)
	}
	if want := []int{30003, 640003, 640064, 40960003, 40960064, 40964096}; !slices.Equal(got, want) {
		t.Fatal(got)
	}
	func() {
		for range seq {
			return
		}
	}()
}

// pairHolds: P18.2 of two Maps.
func pairHolds(t *testing.T, a, b bitmap.Map, x, y *row) {
	t.Helper()
	wrong := func(what string) {
		t.Helper()
		t.Fatalf("%s and %s: %s", short(x.list()), short(y.list()), what)
	}
	or, and := bitmap.Or(a, b), bitmap.And(a, b)
	if f := fault(or, x.both(y, either).list()); f != "" {
		wrong("Or: " + f)
	}
	if f := fault(and, x.both(y, each).list()); f != "" {
		wrong("And: " + f)
	}
	if bitmap.Or(b, a) != or || bitmap.And(b, a) != and {
		wrong("Or and And, turned round")
	}
	if got := bitmap.Within(a, b); got != (*x.both(y, lacking) == row{}) {
		wrong(fmt.Sprint("Within ", got))
	}
	if got := bitmap.Within(b, a); got != (*y.both(x, lacking) == row{}) {
		wrong(fmt.Sprint("Within, turned round, ", got))
	}
	if got := a == b; got != (*x == *y) || (a != b) == got {
		wrong(fmt.Sprint("== ", got))
	}
}

// TestPairs: P18.2 of all pairs of lists.
func TestPairs(t *testing.T) {
	l := lists()
	maps, rows := make([]bitmap.Map, len(l)), make([]*row, len(l))
	for i := range l {
		maps[i], rows[i] = bitmap.Of(l[i]...), rowOf(l[i])
	}
	for i := range l {
		for k := range l {
			if i <= k {
				pairHolds(t, maps[i], maps[k], rows[i], rows[k])
			}
		}
	}
	for i := range l {
		if maps[i] != bitmap.Of(l[i]...) {
			t.Fatalf("%s has changed", short(l[i]))
		}
	}
}

// TestKinds: P18.2 of a Map and itself, of two without a number in common, of one within the other, of one that lacks one number.
func TestKinds(t *testing.T) {
	for _, l := range lists() {
		m, r := bitmap.Of(l...), rowOf(l)
		pairHolds(t, m, m, r, r)
		var rest row
		for i := range rest {
			rest[i] = !r[i]
		}
		pairHolds(t, m, bitmap.Of(rest.list()...), r, &rest)
		for _, i := range r.list() {
			if i%97 == 0 || slices.Contains(edges(), i) {
				less := *r
				less[i] = false
				pairHolds(t, m, m.Without(i), r, &less)
				pairHolds(t, m.Without(i), m, &less, r)
			}
		}
	}
}

// subset are those of a list whose bit a number has.
func subset(l []int, bits int) []int {
	var out []int
	for at, i := range l {
		if bits>>at&1 == 1 {
			out = append(out, i)
		}
	}
	return out
}

// TestSubsets: P18.1 to P18.3 of all lists of numbers at the edges.
func TestSubsets(t *testing.T) {
	l := edges()
	ends := []int{-1, 0, 1, 2, 63, 64, 65, 66, 127, 128, 129, 4031, 4032, 4033, 4095, 4096, 4097, 4098}
	for bits := range 1 << len(l) {
		some := subset(l, bits)
		r := rowOf(some)
		m := bitmap.Of(reversed(some)...)
		holds(t, short(some), m, some)
		for _, i := range slices.Concat(l, ends) {
			if m.Has(i) != slices.Contains(some, i) {
				t.Fatalf("%v: Has(%d)", some, i)
			}
		}
		if bits%16 == 5 || bits < 8 {
			for _, from := range ends {
				for _, to := range ends {
					runsHold(t, m, r, from, to)
				}
			}
		}
	}
	few := []int{0, 63, 64, 4032, 4095, 4096}
	for x := range 1 << len(few) {
		for y := range 1 << len(few) {
			a, b := subset(few, x), subset(few, y)
			m, k := bitmap.Of(a...), bitmap.Of(b...)
			if (m == k) != (x == y) || bitmap.Within(m, k) != (x&^y == 0) || bitmap.Or(m, k) != bitmap.Of(subset(few, x|y)...) || bitmap.And(m, k) != bitmap.Of(subset(few, x&y)...) {
				t.Fatalf("%v and %v", a, b)
			}
		}
	}
}

// TestSame: P18.2: Maps that were made by different ways are == just if they have the same.
func TestSame(t *testing.T) {
	for _, l := range lists() {
		want := bitmap.Of(l...)
		list := rowOf(l).list()
		ways := map[string]bitmap.Map{
			"another order": bitmap.Of(reversed(l)...),
			"twice":         bitmap.Of(slices.Concat(l, l, l)...),
			"never there":   bitmap.Of(slices.Concat(never(), l, never())...),
			"its List":      bitmap.Of(want.List()...),
			"Or":            bitmap.Or(bitmap.Of(list[:len(list)/2]...), bitmap.Of(list[len(list)/2:]...)),
			"And":           bitmap.And(bitmap.Of(count(0, most+1)...), want),
		}
		var with bitmap.Map
		for _, i := range l {
			with = with.With(i).With(i + 1)
			if !slices.Contains(list, i+1) {
				with = with.Without(i + 1)
			}
		}
		ways["With"] = with
		without := bitmap.Of(count(-9, most+9)...)
		for i := -9; i < most+9; i++ {
			if _, found := slices.BinarySearch(list, i); !found {
				without = without.Without(i)
			}
		}
		ways["Without"] = without
		spare := want
		for _, i := range never() {
			spare = spare.With(i).Without(i).With(i)
		}
		for i := most + 1; i < most+200; i++ {
			spare = spare.With(i)
		}
		for i := -200; i < 0; i++ {
			spare = spare.With(i)
		}
		ways["With of what is never there"] = spare
		keys := map[bitmap.Map]int{}
		for how, m := range ways {
			holds(t, short(l)+" by "+how, m, list)
			if m != want || want != m {
				t.Fatalf("%s by %s", short(l), how)
			}
			keys[m]++
		}
		if len(keys) != 1 || keys[want] != len(ways) {
			t.Fatalf("%s: %d keys", short(l), len(keys))
		}
	}
}

// runsHold: P18.3 of a Map.
func runsHold(t *testing.T, m bitmap.Map, r *row, from, to int) {
	t.Helper()
	got := bitmap.Runs(m, from, to)
	if want := r.runs(from, to); !slices.Equal(got, want) {
		t.Fatalf("%s: Runs(%d, %d) %s, not %s", short(r.list()), from, to, short(got), short(want))
	}
	at, end := max(from, 0), min(to, most+1)
	for i, run := range got {
		if run.From != at || run.To <= run.From || run.To > end || i > 0 && run.Cached == got[i-1].Cached {
			t.Fatalf("%s: Runs(%d, %d): %v", short(r.list()), from, to, run)
		}
		if m.Has(run.From) != run.Cached || m.Has(run.To-1) != run.Cached {
			t.Fatalf("%s: Runs(%d, %d): %v", short(r.list()), from, to, run)
		}
		at = run.To
	}
	if from < to && len(got) > 0 && at != end {
		t.Fatalf("%s: Runs(%d, %d) end at %d", short(r.list()), from, to, at)
	}
}

// TestRuns: P18.3 of all lists, with from and to at each edge.
func TestRuns(t *testing.T) {
	ends := []int{math.MinInt, math.MinInt + 1, -1 << 32, -4097, -64, -2, -1, 0, 1, 2, 3, 5, 63, 64, 65, 2000, 2050, 4031, 4032, 4095, 4096, 4097, 4098, 4160, 8194, 1 << 32, 1<<32 + 5, math.MaxInt - 1, math.MaxInt}
	for _, l := range lists() {
		m, r := bitmap.Of(l...), rowOf(l)
		for _, from := range ends {
			for _, to := range ends {
				runsHold(t, m, r, from, to)
			}
		}
		whole := bitmap.Runs(m, 0, most+1)
		if again := bitmap.Runs(m, math.MinInt, math.MaxInt); !slices.Equal(again, whole) {
			t.Fatalf("%s: cut to the whole", short(l))
		}
		there := 0
		for _, run := range whole {
			if run.Cached {
				there += run.To - run.From
			}
		}
		if there != m.Len() {
			t.Fatalf("%s: %d numbers in Runs", short(l), there)
		}
	}
}

// TestRunsAround: P18.3 where a run begins at from, ends at to, goes over one of them, or over both.
func TestRunsAround(t *testing.T) {
	for _, first := range []int{0, 1, 60, 63, 64, 65, 120, 4030, 4087} {
		for size := 1; size <= 10; size++ {
			there := count(first, first+size)
			for _, l := range [][]int{there, slices.DeleteFunc(count(0, most+1), func(i int) bool { return slices.Contains(there, i) })} {
				m, r := bitmap.Of(l...), rowOf(l)
				for from := first - 3; from <= first+size+3; from++ {
					for to := first - 3; to <= first+size+3; to++ {
						runsHold(t, m, r, from, to)
					}
				}
			}
		}
	}
}

// TestPlays: P18.1 to P18.3, in long rows of calls of all kinds.
func TestPlays(t *testing.T) {
	d := dice(2463534242)
	for range 40 {
		maps, rows := make([]bitmap.Map, 4), make([]row, 4)
		// Some plays have numbers near each other, so that they meet.
		low, wide := d.roll(most), 1+d.roll(most+300)
		for range 150 {
			at, other, i := d.roll(4), d.roll(4), low+d.roll(wide)-100
			if d.roll(2) == 0 {
				low = 0
			}
			switch d.roll(6) {
			case 0, 1:
				maps[at] = maps[at].With(i)
				if i >= 0 && i <= most {
					rows[at][i] = true
				}
			case 2:
				maps[at] = maps[at].Without(i)
				if i >= 0 && i <= most {
					rows[at][i] = false
				}
			case 3:
				maps[at] = bitmap.Or(maps[at], maps[other])
				rows[at] = *rows[at].both(&rows[other], either)
			case 4:
				maps[at] = bitmap.And(maps[at], maps[other])
				rows[at] = *rows[at].both(&rows[other], each)
			case 5:
				l := count(i, i+d.roll(100))
				maps[at] = bitmap.Or(maps[at], bitmap.Of(l...))
				rows[at] = *rows[at].both(rowOf(l), either)
			}
			for k := range maps {
				holds(t, "a play", maps[k], rows[k].list())
				if (maps[k] == maps[at]) != (rows[k] == rows[at]) {
					t.Fatal("==", rows[k].list(), rows[at].list())
				}
			}
			pairHolds(t, maps[at], maps[other], &rows[at], &rows[other])
			runsHold(t, maps[at], &rows[at], d.roll(wide+200)-100, d.roll(most+200)-100)
		}
	}
}

// TestMemory: P2: nothing that is handed in is changed, and what is handed out is nobody's afterwards.
func TestMemory(t *testing.T) {
	for _, l := range lists() {
		// What lies behind a list's length isn't read.
		given := slices.Concat(l, []int{9, 4000, 77, 4096, 0})
		before := slices.Clone(given)
		m := bitmap.Of(given[:len(l)]...)
		want := rowOf(l)
		holds(t, "Of a part of a list", m, want.list())
		if !slices.Equal(given, before) {
			t.Fatalf("%s: Of changed its list", short(l))
		}
		// A list that is changed behind the call plays no part.
		for i := range given {
			given[i] = 4096 - i%7
		}
		holds(t, "behind a change of the list", m, want.list())

		list, again := m.List(), m.List()
		spoil(list, 4097)
		if !slices.Equal(again, want.list()) {
			t.Fatalf("%s: two Lists share memory", short(l))
		}
		runs, twin := bitmap.Runs(m, 0, most+1), bitmap.Runs(m, 0, most+1)
		spoil(runs, api.Run{From: 7, To: 3, Cached: true})
		if !slices.Equal(twin, want.runs(0, most+1)) {
			t.Fatalf("%s: two Runs share memory", short(l))
		}
		holds(t, "behind what was handed out", m, want.list())

		o := bitmap.Of(1, 64, 4096)
		kept := o
		a, b := bitmap.Or(m, o), bitmap.And(m, o)
		c, e := m.With(63), m.Without(64)
		p, q := a.Without(64).With(2), b.With(65).Without(4096)
		bitmap.Within(m, o)
		bitmap.Runs(m, 5, 90)
		holds(t, "behind Or and And", m, want.list())
		holds(t, "behind Or and And, the other one", o, []int{1, 64, 4096})
		if o != kept || a != bitmap.Or(m, o) || b != bitmap.And(m, o) || c != m.With(63) || e != m.Without(64) || p == a && a.Has(64) || q == b && !b.Has(65) {
			t.Fatalf("%s: Maps share memory", short(l))
		}
	}
	if l := bitmap.Of().List(); len(l) != 0 {
		t.Fatal(l)
	}
}

// spoil writes over all that a list has room for.
func spoil[T any](l []T, x T) {
	l = l[:cap(l)]
	for i := range l {
		l[i] = x
	}
}
