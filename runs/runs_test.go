package runs_test

import (
	"fmt"
	"math"
	"math/big"
	"slices"
	"testing"

	"spence/api"
	"spence/bitmap"
	"spence/runs"
)

// most is the greatest number that may be, told by hand.
const most = 4096

// dice are numbers without a short rule in them, the same each time.
type dice uint64

func (d *dice) roll(n int) int {
	x := uint64(*d)
	x ^= x << 13
	x ^= x >> 7
	x ^= x << 17
	*d = dice(x)
	return int((x >> 11) % uint64(n))
}

// short is a list, in a line that isn't too long.
func short[T any](l []T) string {
	if len(l) > 40 {
		return fmt.Sprintf("%v and on to %v", l[:40], l[len(l)-1])
	}
	return fmt.Sprint(l)
}

// lacks is a Run that isn't there, has one that is.
func lacks(from, to int) api.Run { return api.Run{From: from, To: to} }
func has(from, to int) api.Run   { return api.Run{From: from, To: to, Cached: true} }

// list are Runs, told one by one.
func list(l ...api.Run) []api.Run { return l }

// count are the numbers from from to to less 1.
func count(from, to int) []int {
	var out []int
	for i := from; i < to; i++ {
		out = append(out, i)
	}
	return out
}

// every are the numbers of which each step-th one is taken, from from on.
func every(step, from int) []int {
	var out []int
	for i := from; i <= most; i += step {
		out = append(out, i)
	}
	return out
}

func reversed(l []int) []int {
	out := slices.Clone(l)
	slices.Reverse(out)
	return out
}

// never are numbers that may not be.
func never() []int {
	return []int{-1, -2, -63, -64, -4096, -4097, 4097, 4098, 4159, 4160, 8192, 1 << 16, 1 << 32, 1<<32 + 1, -1 << 32, 1<<62 - 1, 1 << 62, math.MaxInt - 1, math.MaxInt, math.MinInt, math.MinInt + 1, math.MinInt + 4096}
}

// ends are places at which a Run may begin or end, however far out.
func ends() []int {
	return []int{math.MinInt, math.MinInt + 1, -1 << 62, -1 << 32, -4097, -2, -1, 0, 1, 2, 63, 64, 4095, 4096, 4097, 4098, 8193, 1 << 32, 1<<62 - 1, 1 << 62, math.MaxInt - 1, math.MaxInt}
}

// mosts are what Cap is given.
func mosts() []int {
	return []int{math.MinInt, math.MinInt + 1, -1 << 62, -4097, -8, -1, 0, 1, 2, 3, 4, 5, 7, 8, 63, 64, 1024, 4095, 4096, 4097, 4098, 1 << 32, 1<<62 - 1, 1 << 62, math.MaxInt - 1, math.MaxInt}
}

// everywhere are Runs from each of ends to each, there and not.
func everywhere() []api.Run {
	var out []api.Run
	for _, from := range ends() {
		for _, to := range ends() {
			out = append(out, lacks(from, to), has(from, to))
		}
	}
	return out
}

// needed are the numbers of l that may be, each once, rising.
func needed(l []int) []int {
	may := slices.DeleteFunc(slices.Clone(l), func(i int) bool { return i < 0 || i > most })
	slices.Sort(may)
	return slices.Compact(may)
}

// numbers are a Run's that may be: each one that there is, is asked.
func numbers(r api.Run) []int {
	var out []int
	for i := 0; i <= most; i++ {
		if r.From <= i && i < r.To {
			out = append(out, i)
		}
	}
	return out
}

// splitFault is what of Runs isn't as P27.1 asks of Split; else "". It makes no Runs of its own, but holds these against each word.
func splitFault(need []int, there func(i int) bool, got []api.Run) string {
	var told []int
	for at, r := range got {
		if r.From >= r.To || r.From < 0 || r.To > most+1 {
			return fmt.Sprintf("%v has no number, or one that may not be", r)
		}
		for i := r.From; i < r.To; i++ {
			if there(i) != r.Cached {
				return fmt.Sprintf("%v, of which %d is otherwise", r, i)
			}
			told = append(told, i)
		}
		if at > 0 && got[at-1].To == r.From && got[at-1].Cached == r.Cached {
			return fmt.Sprintf("%v and %v could be one", got[at-1], r)
		}
	}
	if want := needed(need); !slices.Equal(told, want) {
		return "of " + short(told) + ", not of " + short(want)
	}
	return ""
}

// among is whether a number is one of l.
func among(l []int) func(i int) bool {
	var there [most + 1]bool
	for _, i := range l {
		if i >= 0 && i <= most {
			there[i] = true
		}
	}
	return func(i int) bool { return there[i] }
}

// holdSplit holds Split, and what is asked of its Runs, against P27.1 to P27.4.
func holdSplit(t *testing.T, need, have []int) []api.Run {
	t.Helper()
	m, there := bitmap.Of(have...), among(have)
	kept := slices.Clone(need)
	got := runs.Split(need, m)
	how := "Split(" + short(need) + ") of " + short(have)
	if f := splitFault(need, there, got); f != "" {
		t.Fatalf("%s: %s: %s", how, short(got), f)
	}
	if !slices.Equal(need, kept) || m != bitmap.Of(have...) {
		t.Fatalf("%s: need is %s behind it", how, short(need))
	}
	want := needed(kept)
	if l := runs.Slices(got); !slices.Equal(l, want) {
		t.Fatalf("%s: Slices %s, not %s", how, short(l), short(want))
	}
	if n := runs.Count(got); n != len(want) {
		t.Fatalf("%s: Count %d, not %d", how, n, len(want))
	}
	missing := slices.DeleteFunc(slices.Clone(want), there)
	if l := runs.Slices(runs.Missing(got)); !slices.Equal(l, missing) {
		t.Fatalf("%s: Slices of Missing %s, not %s", how, short(l), short(missing))
	}
	if !runs.Apart(got) || !runs.Apart(runs.Missing(got)) {
		t.Fatalf("%s: %s: not Apart", how, short(got))
	}
	return got
}

// TestSplitByHand: P27.1.
func TestSplitByHand(t *testing.T) {
	all, even, odd := count(0, most+1), every(2, 0), every(2, 1)
	var turns []api.Run
	for i := range most + 1 {
		turns = append(turns, api.Run{From: i, To: i + 1, Cached: i%2 == 0})
	}
	for _, x := range []struct {
		need, have []int
		want       []api.Run
	}{
		// The document's example.
		{[]int{0, 1, 2, 5}, []int{1}, list(lacks(0, 1), has(1, 2), lacks(2, 3), lacks(5, 6))},
		{nil, nil, nil}, {[]int{}, []int{1}, nil}, {nil, all, nil},
		{[]int{3}, nil, list(lacks(3, 4))}, {[]int{3}, []int{3}, list(has(3, 4))}, {[]int{3}, []int{2, 4}, list(lacks(3, 4))},
		{[]int{0}, []int{0}, list(has(0, 1))}, {[]int{4096}, nil, list(lacks(4096, 4097))}, {[]int{4096}, all, list(has(4096, 4097))},
		// Whatever their order, each once.
		{[]int{5, 2, 1, 0}, []int{1}, list(lacks(0, 1), has(1, 2), lacks(2, 3), lacks(5, 6))},
		{[]int{2, 5, 0, 1}, []int{1}, list(lacks(0, 1), has(1, 2), lacks(2, 3), lacks(5, 6))},
		{[]int{7, 7}, nil, list(lacks(7, 8))}, {[]int{7, 8, 7, 8, 7}, nil, list(lacks(7, 9))}, {[]int{8, 8, 7, 7, 9, 9}, []int{8}, list(lacks(7, 8), has(8, 9), lacks(9, 10))},
		// Those that may not be aren't needed, nor do they join what lies about them.
		{[]int{-1}, nil, nil}, {[]int{4097}, nil, nil}, {never(), all, nil},
		{[]int{-1, 0, 1}, nil, list(lacks(0, 2))}, {[]int{4095, 4096, 4097}, []int{4095, 4096, 4097}, list(has(4095, 4097))},
		{slices.Concat(never(), []int{4096, 0}, never()), []int{0, -1, 4097}, list(has(0, 1), lacks(4096, 4097))},
		// A gap and a change, each alone and both at once.
		{[]int{1, 2, 4, 5}, nil, list(lacks(1, 3), lacks(4, 6))}, {[]int{1, 2, 4, 5}, []int{1, 2, 4, 5}, list(has(1, 3), has(4, 6))},
		{[]int{1, 2, 3, 4}, []int{1, 2}, list(has(1, 3), lacks(3, 5))}, {[]int{1, 2, 3, 4}, []int{3, 4}, list(lacks(1, 3), has(3, 5))},
		{[]int{1, 2, 4, 5}, []int{1, 2}, list(has(1, 3), lacks(4, 6))}, {[]int{1, 2, 4, 5}, []int{4, 5}, list(lacks(1, 3), has(4, 6))},
		// What is there and isn't needed plays no part.
		{[]int{1, 3}, []int{2}, list(lacks(1, 2), lacks(3, 4))}, {[]int{1, 3}, []int{1, 2, 3}, list(has(1, 2), has(3, 4))},
		{[]int{63, 64, 127, 128}, []int{64, 127, 65}, list(lacks(63, 64), has(64, 65), has(127, 128), lacks(128, 129))},
		{all, nil, list(lacks(0, 4097))}, {all, all, list(has(0, 4097))}, {reversed(all), all, list(has(0, 4097))}, {slices.Concat(all, all), nil, list(lacks(0, 4097))},
		{all, even, turns}, {reversed(all), even, turns}, {slices.Concat(odd, even, never()), even, turns},
		{all, all[1:], list(lacks(0, 1), has(1, 4097))}, {all, all[:4096], list(has(0, 4096), lacks(4096, 4097))}, {all, []int{2000}, list(lacks(0, 2000), has(2000, 2001), lacks(2001, 4097))},
	} {
		got := holdSplit(t, x.need, x.have)
		if !slices.Equal(got, x.want) {
			t.Errorf("Split(%s) of %s: %s, not %s", short(x.need), short(x.have), short(got), short(x.want))
		}
	}
}

// bits are the numbers from first on whose bits n has.
func bits(n, first int) []int {
	var out []int
	for i := range 10 {
		if n>>i&1 == 1 {
			out = append(out, first+i)
		}
	}
	return out
}

// TestSplitOfEach has each need beside each Map, of a few numbers where the row and words begin and end.
func TestSplitOfEach(t *testing.T) {
	for _, at := range []struct{ first, numbers int }{{0, 5}, {-2, 6}, {61, 6}, {4092, 7}} {
		for need := range 1 << at.numbers {
			for have := range 1 << at.numbers {
				holdSplit(t, bits(need, at.first), bits(have, at.first))
			}
		}
	}
}

// orders are all orders of l.
func orders(l []int, each func(l []int)) {
	var on func(at int)
	on = func(at int) {
		if at == len(l) {
			each(slices.Clone(l))
		}
		for i := at; i < len(l); i++ {
			l[at], l[i] = l[i], l[at]
			on(at + 1)
			l[at], l[i] = l[i], l[at]
		}
	}
	on(0)
}

// TestSplitOfEachOrder: P27.1, whatever need's order.
func TestSplitOfEachOrder(t *testing.T) {
	for _, have := range [][]int{nil, {1}, {2, 3}, {1, 2, 3}, {3, 4096}, {4096}} {
		for _, l := range [][]int{{0, 1, 2, 3}, {1, 2, 2, 3, 3}, {-1, 2, 3, 4096, 4097}, {4096, 4095, 5, 6, 4096}} {
			want := holdSplit(t, l, have)
			orders(slices.Clone(l), func(l []int) {
				if got := runs.Split(l, bitmap.Of(have...)); !slices.Equal(got, want) {
					t.Fatalf("Split(%v) of %v: %v, not %v", l, have, got, want)
				}
			})
		}
	}
}

// needs are ordinary ones and odd ones; lists of any length.
func needs() [][]int {
	all := count(0, most+1)
	l := [][]int{
		nil, {}, {0}, {4096}, {-1}, {4097}, never(), slices.Concat(never(), never()), all, reversed(all), slices.Concat(all, reversed(all)), count(-100, most+100),
		all[1:], all[:most], every(2, 0), every(2, 1), every(3, 2), every(64, 63), reversed(every(5, 0)), slices.Concat(every(4, 0), every(4, 1)), slices.Repeat([]int{9, 8, 7}, 300),
	}
	d := dice(88172645463325252)
	for n := range 25 {
		var some []int
		for range d.roll(1 + n*n*4) {
			some = append(some, d.roll(most+100)-50)
		}
		l = append(l, some)
	}
	// Rows that follow one another, here and there.
	for range 15 {
		var some []int
		for range d.roll(20) {
			from := d.roll(most+1) - 5
			some = append(some, count(from, from+d.roll(150))...)
		}
		l = append(l, some)
	}
	return l
}

// TestSplitOfAny has each of needs beside each, as a Map.
func TestSplitOfAny(t *testing.T) {
	for _, need := range needs() {
		for _, have := range needs() {
			holdSplit(t, need, have)
		}
	}
}

// TestSplitOfNobodysMap: P1, P3.
func TestSplitOfNobodysMap(t *testing.T) {
	var m bitmap.Map
	if got := runs.Split([]int{4, 3, 9}, m); !slices.Equal(got, list(lacks(3, 5), lacks(9, 10))) {
		t.Fatal(got)
	}
	if len(runs.Split(nil, m)) != 0 || len(runs.Split([]int{}, m)) != 0 {
		t.Fatal("of none")
	}
}

// holdList holds what is asked of Runs, Apart aside, against P27.2: their numbers are told by the one who asks.
func holdList(t *testing.T, l []api.Run, numbers func(r api.Run) []int, most ...int) {
	t.Helper()
	kept := slices.Clone(l)
	var missing []api.Run
	var all []int
	for _, r := range kept {
		if !r.Cached {
			missing = append(missing, r)
		}
		all = append(all, numbers(r)...)
	}
	if got := runs.Missing(l); !slices.Equal(got, missing) {
		t.Fatalf("Missing(%s): %s, not %s", short(l), short(got), short(missing))
	}
	if got := runs.Slices(l); !slices.Equal(got, all) {
		t.Fatalf("Slices(%s): %s, not %s", short(l), short(got), short(all))
	}
	if got := runs.Count(l); got != len(all) {
		t.Fatalf("Count(%s): %d, not %d", short(l), got, len(all))
	}
	for _, n := range most {
		var parts []api.Run
		for _, r := range kept {
			for part := range slices.Chunk(numbers(r), max(n, 1)) {
				parts = append(parts, api.Run{From: part[0], To: part[len(part)-1] + 1, Cached: r.Cached})
			}
		}
		got := runs.Cap(l, n)
		if !slices.Equal(got, parts) {
			t.Fatalf("Cap(%s, %d): %s, not %s", short(l), n, short(got), short(parts))
		}
		if s := runs.Slices(got); !slices.Equal(s, all) {
			t.Fatalf("Cap(%s, %d): of %s, not of %s", short(l), n, short(s), short(all))
		}
	}
	if !slices.Equal(l, kept) {
		t.Fatalf("%s is %s behind it", short(kept), short(l))
	}
}

// near are a Run's numbers that may be, of one that begins and ends near them.
func near(r api.Run) []int {
	var out []int
	for i := r.From; i < r.To; i++ {
		if i >= 0 && i <= most {
			out = append(out, i)
		}
	}
	return out
}

// few are Runs from each place of a few to each, there and not by turns.
func few(from, to int) []api.Run {
	var out []api.Run
	for f := from; f <= to; f++ {
		for g := from; g <= to; g++ {
			out = append(out, api.Run{From: f, To: g, Cached: (f+g)%2 == 0})
		}
	}
	return out
}

// lists hands on all lists of so many of few.
func lists(few []api.Run, n int, each func(l []api.Run)) {
	l := make([]api.Run, n)
	var on func(at int)
	on = func(at int) {
		if at == n {
			each(l)
			return
		}
		for _, r := range few {
			l[at] = r
			on(at + 1)
		}
	}
	on(0)
}

// TestListsOfEach has all lists of up to three Runs where numbers begin and end.
func TestListsOfEach(t *testing.T) {
	for _, l := range [][]api.Run{few(-2, 3), few(4093, 4098), few(70, 74)} {
		for n := range 4 {
			lists(l, n, func(l []api.Run) { holdList(t, l, near, 0, 1, 2, 3) })
		}
	}
}

// TestListsOfEverywhere has Runs from anywhere to anywhere, alone and beside others.
func TestListsOfEverywhere(t *testing.T) {
	for _, r := range everywhere() {
		holdList(t, list(r), numbers, mosts()...)
	}
	d := dice(27)
	all := everywhere()
	for range 150 {
		var l []api.Run
		for range d.roll(7) {
			l = append(l, all[d.roll(len(all))])
		}
		holdList(t, l, numbers, mosts()[d.roll(len(mosts()))], 64)
	}
}

// TestListsOfAny has lists of any length.
func TestListsOfAny(t *testing.T) {
	d := dice(2027)
	for n := range 120 {
		var l []api.Run
		for range d.roll(1 + n) {
			from := d.roll(most+60) - 30
			l = append(l, api.Run{From: from, To: from + d.roll(120) - 20, Cached: d.roll(2) == 0})
		}
		holdList(t, l, near, d.roll(12)-1, d.roll(130))
	}
}

// TestListOfVeryMany: a Run with all numbers, so often that there are more of them than one device has.
func TestListOfVeryMany(t *testing.T) {
	l := slices.Repeat(list(has(-5, 9000)), 3000)
	if got := runs.Count(l); got != 3000*4097 {
		t.Fatal(got)
	}
	got := runs.Slices(l)
	if len(got) != 3000*4097 {
		t.Fatal(len(got))
	}
	for at, i := range got {
		if i != at%4097 {
			t.Fatal(at, i)
		}
	}
}

// TestMissingByHand: P27.2. What isn't Cached stays as it is, also where it has no number, or one that may not be.
func TestMissingByHand(t *testing.T) {
	for _, x := range []struct{ l, want []api.Run }{
		{nil, nil}, {list(), nil}, {list(has(1, 2)), nil}, {list(lacks(1, 2)), list(lacks(1, 2))},
		{list(has(1, 2), has(0, 9)), nil}, {list(lacks(1, 2), lacks(0, 9)), list(lacks(1, 2), lacks(0, 9))},
		{list(has(0, 1), lacks(1, 3), has(3, 4), lacks(4, 5)), list(lacks(1, 3), lacks(4, 5))},
		{list(lacks(0, 1), has(1, 3), lacks(3, 4), has(4, 5)), list(lacks(0, 1), lacks(3, 4))},
		{list(lacks(9, 12), lacks(3, 4), has(5, 6), lacks(3, 4)), list(lacks(9, 12), lacks(3, 4), lacks(3, 4))},
		{list(lacks(1, 3), lacks(3, 5)), list(lacks(1, 3), lacks(3, 5))},
		{list(lacks(3, 3), has(4, 4), lacks(5, 1), lacks(-9, 9000)), list(lacks(3, 3), lacks(5, 1), lacks(-9, 9000))},
		{list(lacks(0, 0), has(0, 0)), list(lacks(0, 0))},
		{list(lacks(math.MinInt, math.MaxInt), has(1, 2), lacks(math.MaxInt, math.MinInt)), list(lacks(math.MinInt, math.MaxInt), lacks(math.MaxInt, math.MinInt))},
	} {
		if got := runs.Missing(x.l); !slices.Equal(got, x.want) {
			t.Errorf("Missing(%v): %v, not %v", x.l, got, x.want)
		}
	}
}

// TestSlicesByHand: P27.2 of Slices and of Count.
func TestSlicesByHand(t *testing.T) {
	all := count(0, most+1)
	for _, x := range []struct {
		l    []api.Run
		want []int
	}{
		{nil, nil}, {list(), nil}, {list(lacks(0, 0)), nil}, {list(lacks(3, 3)), nil}, {list(has(5, 1)), nil}, {list(lacks(4097, 4097)), nil}, {list(lacks(4097, 0)), nil},
		{list(lacks(0, 1)), []int{0}}, {list(has(0, 1)), []int{0}}, {list(lacks(4096, 4097)), []int{4096}}, {list(lacks(4, 7)), []int{4, 5, 6}},
		// Cut at either end, and at both.
		{list(lacks(-3, 2)), []int{0, 1}}, {list(lacks(-1, 1)), []int{0}}, {list(lacks(-1, 0)), nil}, {list(lacks(4095, 4098)), []int{4095, 4096}}, {list(lacks(4096, 9000)), []int{4096}},
		{list(lacks(4097, 4098)), nil}, {list(lacks(4097, 9000)), nil}, {list(lacks(5000, 9000)), nil}, {list(lacks(-9, -3)), nil}, {list(lacks(-9, 9000)), all},
		{list(lacks(math.MinInt, math.MaxInt)), all}, {list(lacks(math.MaxInt, math.MinInt)), nil}, {list(lacks(math.MinInt, math.MinInt)), nil}, {list(lacks(math.MaxInt, math.MaxInt)), nil},
		{list(lacks(math.MinInt, 1)), []int{0}}, {list(lacks(4095, math.MaxInt)), []int{4095, 4096}}, {list(lacks(1, math.MinInt)), nil}, {list(lacks(math.MaxInt, 1)), nil},
		{list(lacks(math.MaxInt-1, math.MaxInt)), nil}, {list(lacks(math.MinInt, math.MinInt+1)), nil},
		// In the order of the Runs, and as often as they have them.
		{list(lacks(4, 6), has(1, 2)), []int{4, 5, 1}}, {list(lacks(1, 4), has(2, 6)), []int{1, 2, 3, 2, 3, 4, 5}}, {list(has(1, 3), has(1, 3)), []int{1, 2, 1, 2}},
		{list(lacks(9, 9), has(7, 8), lacks(3, 1), lacks(8, 10), has(-4, 1)), []int{7, 8, 9, 0}}, {list(has(0, 2), lacks(2, 4)), []int{0, 1, 2, 3}},
	} {
		if got := runs.Slices(x.l); !slices.Equal(got, x.want) {
			t.Errorf("Slices(%v): %s, not %s", x.l, short(got), short(x.want))
		}
		if got := runs.Count(x.l); got != len(x.want) {
			t.Errorf("Count(%v): %d, not %d", x.l, got, len(x.want))
		}
	}
}

// TestCapByHand: P27.2.
func TestCapByHand(t *testing.T) {
	ones := list(lacks(4, 5), lacks(5, 6), lacks(6, 7))
	for _, x := range []struct {
		l    []api.Run
		most int
		want []api.Run
	}{
		{nil, 3, nil}, {list(), 3, nil}, {nil, 0, nil}, {list(lacks(3, 3), has(5, 1), lacks(-4, 0), has(4097, 9000)), 3, nil},
		// The numbers are most; one less, one more; twice as many, and about that.
		{list(lacks(4, 7)), 3, list(lacks(4, 7))}, {list(lacks(4, 6)), 3, list(lacks(4, 6))}, {list(lacks(4, 8)), 3, list(lacks(4, 7), lacks(7, 8))},
		{list(lacks(4, 9)), 3, list(lacks(4, 7), lacks(7, 9))}, {list(lacks(4, 10)), 3, list(lacks(4, 7), lacks(7, 10))}, {list(lacks(4, 11)), 3, list(lacks(4, 7), lacks(7, 10), lacks(10, 11))},
		{list(lacks(4, 7)), 1, ones}, {list(lacks(4, 7)), 2, list(lacks(4, 6), lacks(6, 7))}, {list(lacks(4, 7)), 4, list(lacks(4, 7))}, {list(lacks(4, 7)), 4097, list(lacks(4, 7))},
		// Below 1: of 1.
		{list(lacks(4, 7)), 0, ones}, {list(lacks(4, 7)), -1, ones}, {list(lacks(4, 7)), -3, ones}, {list(lacks(4, 7)), math.MinInt, ones},
		{list(lacks(4, 7)), math.MaxInt, list(lacks(4, 7))}, {list(lacks(4, 7)), math.MaxInt - 1, list(lacks(4, 7))}, {list(lacks(4096, 4097)), math.MaxInt, list(lacks(4096, 4097))},
		// A Cached one's parts are Cached; what touches isn't joined.
		{list(has(0, 5)), 2, list(has(0, 2), has(2, 4), has(4, 5))}, {list(has(0, 3), lacks(3, 6)), 2, list(has(0, 2), has(2, 3), lacks(3, 5), lacks(5, 6))},
		{list(lacks(0, 1), lacks(1, 2)), 8, list(lacks(0, 1), lacks(1, 2))},
		// Cut first, then parted.
		{list(lacks(-2, 7), lacks(9, 9)), 3, list(lacks(0, 3), lacks(3, 6), lacks(6, 7))}, {list(has(4093, 4100)), 3, list(has(4093, 4096), has(4096, 4097))}, {list(lacks(-1, 1)), 1, list(lacks(0, 1))},
		{list(lacks(math.MinInt, math.MaxInt)), 4000, list(lacks(0, 4000), lacks(4000, 4097))}, {list(has(math.MinInt, math.MaxInt)), math.MaxInt, list(has(0, 4097))},
		{list(lacks(math.MinInt, math.MaxInt)), 4096, list(lacks(0, 4096), lacks(4096, 4097))}, {list(lacks(math.MaxInt, math.MinInt)), 4096, nil},
		// In order, whatever that is; those without a number are left out between others.
		{list(lacks(8, 11), has(3, 3), lacks(1, 4), lacks(9, 2), has(1, 4)), 2, list(lacks(8, 10), lacks(10, 11), lacks(1, 3), lacks(3, 4), has(1, 3), has(3, 4))},
	} {
		if got := runs.Cap(x.l, x.most); !slices.Equal(got, x.want) {
			t.Errorf("Cap(%v, %d): %s, not %s", x.l, x.most, short(got), short(x.want))
		}
	}
}

// TestCapOfEach has a Run of each length, in parts of each.
func TestCapOfEach(t *testing.T) {
	for length := range 40 {
		for from := range 3 {
			holdList(t, list(has(from, from+length)), near, count(-1, 42)...)
			holdList(t, list(lacks(4097-length-from, 4097+from)), near, count(-1, 42)...)
		}
	}
}

// apart tells P27.3 by the numbers alone: each Run's are there, may be, and are above those of the Runs ahead.
func apart(l []api.Run) bool {
	above := -1
	for _, r := range l {
		own := numbers(r)
		// However far out it begins and ends: it has none but these.
		length := new(big.Int).Sub(big.NewInt(int64(r.To)), big.NewInt(int64(r.From)))
		if len(own) == 0 || length.Cmp(big.NewInt(int64(len(own)))) != 0 || own[0] <= above {
			return false
		}
		above = own[len(own)-1]
	}
	return true
}

// TestApartByHand: P27.3.
func TestApartByHand(t *testing.T) {
	for _, x := range []struct {
		l    []api.Run
		want bool
	}{
		{nil, true}, {list(), true}, {list(lacks(4, 6)), true}, {list(has(4, 6)), true}, {list(lacks(4, 5)), true},
		// Without a number.
		{list(lacks(4, 4)), false}, {list(lacks(0, 0)), false}, {list(lacks(4097, 4097)), false}, {list(lacks(6, 4)), false}, {list(lacks(5, 4)), false}, {list(lacks(4, 4), lacks(5, 6)), false}, {list(lacks(1, 2), lacks(2, 2)), false}, {list(lacks(1, 2), lacks(2, 2), lacks(2, 3)), false},
		// Where numbers begin and end.
		{list(lacks(0, 1)), true}, {list(lacks(-1, 1)), false}, {list(lacks(-1, 0)), false}, {list(lacks(-2, -1)), false}, {list(lacks(0, 4097)), true}, {list(has(4096, 4097)), true},
		{list(lacks(0, 4098)), false}, {list(lacks(4096, 4098)), false}, {list(lacks(4097, 4098)), false}, {list(lacks(5000, 5001)), false}, {list(lacks(1, 2), lacks(4096, 4098)), false}, {list(lacks(-1, 1), lacks(2, 3)), false},
		{list(lacks(1, 2), lacks(4097, 4098)), false}, {list(lacks(math.MinInt, math.MaxInt)), false}, {list(lacks(math.MaxInt, math.MinInt)), false}, {list(lacks(math.MinInt, 5)), false}, {list(lacks(5, math.MaxInt)), false},
		{list(lacks(math.MinInt, math.MinInt+1)), false}, {list(lacks(math.MaxInt-1, math.MaxInt)), false}, {list(lacks(1, math.MinInt)), false},
		// They touch, leave a gap, lie one over the other; whether they are there plays no part.
		{list(lacks(1, 3), lacks(3, 5)), true}, {list(lacks(1, 3), has(3, 5)), true}, {list(has(1, 3), has(3, 5)), true}, {list(lacks(1, 3), lacks(4, 5)), true}, {list(has(1, 3), lacks(4000, 4001)), true},
		{list(lacks(1, 3), lacks(2, 5)), false}, {list(has(1, 3), lacks(2, 5)), false}, {list(lacks(1, 3), lacks(1, 3)), false}, {list(lacks(1, 9), lacks(3, 4)), false}, {list(lacks(3, 4), lacks(1, 9)), false},
		{list(lacks(4, 6), lacks(1, 2)), false}, {list(lacks(4, 6), lacks(1, 4)), false}, {list(lacks(4, 6), lacks(3, 5)), false},
		// At each place of a longer list.
		{list(lacks(0, 1), lacks(1, 2), lacks(2, 3), has(9, 4097)), true}, {list(lacks(0, 2), lacks(1, 2), lacks(2, 3), has(9, 4097)), false}, {list(lacks(0, 1), lacks(1, 3), lacks(2, 3), has(9, 4097)), false},
		{list(lacks(0, 1), lacks(1, 2), lacks(2, 10), has(9, 4097)), false}, {list(lacks(0, 1), lacks(1, 2), lacks(2, 3), has(9, 4098)), false}, {list(lacks(5, 6), lacks(1, 2), lacks(5, 6)), false}, {list(lacks(1, 2), lacks(5, 6), lacks(3, 4)), false},
	} {
		if got := runs.Apart(x.l); got != x.want || apart(x.l) != x.want {
			t.Errorf("Apart(%v): %v, by the numbers %v, not %v", x.l, got, apart(x.l), x.want)
		}
	}
}

// TestApartOfEach has all lists of up to three Runs where numbers begin and end.
func TestApartOfEach(t *testing.T) {
	for _, at := range []int{-1, 4094} {
		for n := range 4 {
			lists(few(at, at+4), n, func(l []api.Run) {
				kept := slices.Clone(l)
				if got, want := runs.Apart(l), apart(l); got != want {
					t.Fatalf("Apart(%v): %v, not %v", l, got, want)
				}
				if !slices.Equal(l, kept) {
					t.Fatalf("%v is %v behind Apart", kept, l)
				}
			})
		}
	}
}

// TestApartOfEverywhere has Runs from anywhere to anywhere, alone and behind another.
func TestApartOfEverywhere(t *testing.T) {
	for _, r := range everywhere() {
		for _, l := range [][]api.Run{list(r), list(lacks(0, 1), r), list(r, has(4096, 4097)), list(lacks(0, 64), r), list(r, lacks(64, 65), has(70, 71))} {
			if got, want := runs.Apart(l), apart(l); got != want {
				t.Fatalf("Apart(%v): %v, not %v", l, got, want)
			}
		}
	}
}

// TestApartOfLongLists: a long list is Apart, and isn't if two of its Runs change places, or one grows by a number at either end.
func TestApartOfLongLists(t *testing.T) {
	d := dice(99)
	for range 30 {
		var l []api.Run
		for at := d.roll(3); at <= most-60; {
			to := at + 1 + d.roll(30)
			l = append(l, api.Run{From: at, To: to, Cached: d.roll(2) == 0})
			at = to + d.roll(3)*d.roll(10)
		}
		if !runs.Apart(l) || !apart(l) {
			t.Fatalf("Apart(%s)", short(l))
		}
		at := d.roll(len(l) - 1)
		turned := slices.Clone(l)
		turned[at], turned[at+1] = turned[at+1], turned[at]
		grown := slices.Clone(l)
		grown[at].To = grown[at+1].From + 1
		early := slices.Clone(l)
		early[at+1].From = early[at].To - 1
		none := slices.Insert(slices.Clone(l), at+1, lacks(l[at].To, l[at].To))
		for _, x := range [][]api.Run{turned, grown, early, none} {
			if runs.Apart(x) {
				t.Fatalf("Apart(%s), otherwise at %d", short(x), at)
			}
		}
	}
}

// TestNone: P3.
func TestNone(t *testing.T) {
	for _, l := range [][]api.Run{nil, {}, make([]api.Run, 0, 8)} {
		if len(runs.Missing(l)) != 0 || len(runs.Slices(l)) != 0 || len(runs.Cap(l, 4)) != 0 || runs.Count(l) != 0 || !runs.Apart(l) {
			t.Fatalf("%v", l)
		}
	}
}

// spoil writes over all of a list, and over what lies behind its length.
func spoil[T any](l []T, with T) {
	l = l[:cap(l)]
	for i := range l {
		l[i] = with
	}
}

// TestOwnMemory: P2. What is handed in stays as it is, with what lies behind it; what is handed out is nobody's.
func TestOwnMemory(t *testing.T) {
	have := bitmap.Of(1, 2, 6)
	sets := [][]api.Run{
		list(lacks(0, 2), lacks(3, 6), has(6, 9), lacks(9, 12)), list(lacks(0, 2), lacks(3, 6)), list(has(0, 2), has(3, 6)),
		list(lacks(-5, 3), has(4090, 9000), lacks(5, 5), has(9, 1)), list(lacks(1, 2)), list(has(1, 2)),
	}
	calls := []struct {
		kind string
		call func(l []api.Run) []api.Run
	}{
		{"Missing", runs.Missing}, {"Cap of 2", func(l []api.Run) []api.Run { return runs.Cap(l, 2) }}, {"Cap of 100", func(l []api.Run) []api.Run { return runs.Cap(l, 100) }},
		{"Split of Slices", func(l []api.Run) []api.Run { return runs.Split(runs.Slices(l), have) }},
	}
	for _, set := range sets {
		for _, c := range calls {
			// Behind the list's length lie Runs of somebody else.
			whole := slices.Concat(set, list(lacks(70, 80), has(80, 90)))
			kept := slices.Clone(whole)
			l := whole[:len(set)]
			first, second := c.call(l), c.call(l)
			if !slices.Equal(whole, kept) || !slices.Equal(first, second) || !slices.Equal(first, c.call(slices.Clone(set))) {
				t.Fatalf("%s of %v: %v, %v, and what it was given %v", c.kind, set, first, second, whole)
			}
			told := slices.Clone(first)
			spoil(first, has(-7, -7))
			if !slices.Equal(whole, kept) || !slices.Equal(second, told) || !slices.Equal(c.call(l), told) {
				t.Fatalf("%s of %v shares memory", c.kind, set)
			}
			spoil(whole, has(-8, -8))
			if !slices.Equal(second, told) {
				t.Fatalf("%s of %v shares memory with what it was given", c.kind, set)
			}
		}
	}
}

// TestOwnMemoryOfNumbers: P2, of Split's need and of what Slices answers.
func TestOwnMemoryOfNumbers(t *testing.T) {
	have := bitmap.Of(1, 2, 6)
	whole := []int{5, 2, 1, 1, -3, 6, 4097, 40, 41}
	kept := slices.Clone(whole)
	want := list(has(1, 3), lacks(5, 6), has(6, 7))
	first, second := runs.Split(whole[:7], have), runs.Split(whole[:7], have)
	if !slices.Equal(first, want) || !slices.Equal(whole, kept) || have != bitmap.Of(1, 2, 6) {
		t.Fatal(first, whole)
	}
	spoil(first, has(-7, -7))
	spoil(whole, 99)
	if !slices.Equal(second, want) {
		t.Fatal(second)
	}
	a, b := runs.Slices(want), runs.Slices(want)
	spoil(a, -9)
	if !slices.Equal(b, []int{1, 2, 5, 6}) || !slices.Equal(want, list(has(1, 3), lacks(5, 6), has(6, 7))) {
		t.Fatal(b, want)
	}
	runs.Count(want)
	runs.Apart(want)
	if !slices.Equal(want, list(has(1, 3), lacks(5, 6), has(6, 7))) {
		t.Fatal(want)
	}
}
