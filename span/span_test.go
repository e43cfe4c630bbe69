package span_test

import (
	"math"
	"math/big"
	"slices"
	"testing"

	"spence/api"
	"spence/span"
	"spence/spec"
)

// at is a span from one place to another.
func at(from, to int) api.Span { return api.Span{From: from, To: to} }

// list is spans as a list.
func list(l ...api.Span) []api.Span { return l }

// from, both and last are a spec of each kind.
func from(n int) api.Spec           { return api.Spec{Kind: api.SpecFrom, First: n} }
func both(first, last int) api.Spec { return api.Spec{Kind: api.SpecBoth, First: first, Last: last} }
func last(n int) api.Spec           { return api.Spec{Kind: api.SpecLast, First: n} }

// edges are numbers, rising, at which something that an int or a limit can do begins or ends.
func edges() []int {
	return []int{
		math.MinInt, math.MinInt + 1, -api.MaxNum - 1, -api.MaxNum, -7, -2, -1, 0, 1, 2, 3, 7, 1 << 31, 1 << 61,
		api.MaxNum - 2, api.MaxNum - 1, api.MaxNum, api.MaxNum + 1, api.MaxNum + 2, math.MaxInt - 1, math.MaxInt,
	}
}

// wrong are spans that aren't Right.
func wrong() []api.Span {
	return list(
		at(0, 0), at(5, 5), at(api.MaxNum, api.MaxNum), at(6, 5), at(9, 0), at(-1, 0), at(-1, 5), at(-5, -1), at(0, -1), at(5, -1),
		at(0, api.MaxNum+1), at(api.MaxNum, api.MaxNum+1), at(5, math.MaxInt), at(api.MaxNum+1, api.MaxNum+2), at(0, math.MinInt),
		at(math.MinInt, 5), at(math.MinInt, math.MaxInt), at(math.MaxInt, math.MinInt), at(math.MinInt, math.MinInt), at(math.MaxInt, math.MaxInt),
	)
}

// window is how many places the small spans of the tests go over.
const window = 7

// bases are where a window begins: below 0, at 0, and such that MaxNum is within it.
func bases() []int { return []int{-2, 0, 1000, api.MaxNum - 5} }

// spansFrom are all spans with ends within the window at base, those that aren't Right, too.
func spansFrom(base int) []api.Span {
	var l []api.Span
	for i := range window {
		for k := range window {
			l = append(l, at(base+i, base+k))
		}
	}
	return l
}

// bytesOf says of each place of the window at base whether l has it.
func bytesOf(l []api.Span, base int) [window]bool {
	var has [window]bool
	for _, s := range l {
		if s.From < 0 || s.To > api.MaxNum {
			continue
		}
		for b := s.From; b < s.To; b++ {
			has[b-base] = true
		}
	}
	return has
}

// filled is has with the holes of at most gap places filled.
func filled(has [window]bool, gap int) [window]bool {
	lastOne := -1
	for i := range window {
		if !has[i] {
			continue
		}
		if lastOne >= 0 && i-lastOne-1 <= max(gap, 0) {
			for k := lastOne; k < i; k++ {
				has[k] = true
			}
		}
		lastOne = i
	}
	return has
}

// rows are the places of the window that has says, as spans.
func rows(has [window]bool, base int) []api.Span {
	var l []api.Span
	for i := range window {
		switch {
		case !has[i]:
		case i > 0 && has[i-1]:
			l[len(l)-1].To++
		default:
			l = append(l, at(base+i, base+i+1))
		}
	}
	return l
}

// same holds an answer against what it must be. It ends the test, as some hold very many.
func same(t *testing.T, what string, got, want []api.Span, given ...any) {
	t.Helper()
	if !slices.Equal(got, want) {
		t.Fatalf("%s of %v: %v; want %v", what, given, got, want)
	}
}

func TestRight(t *testing.T) {
	for _, s := range list(at(0, 1), at(0, 5), at(3, 4), at(3, 9), at(0, api.MaxNum), at(1, api.MaxNum), at(api.MaxNum-1, api.MaxNum), at(0, api.MaxNum-1)) {
		if !span.Right(s) {
			t.Errorf("%v isn't Right", s)
		}
	}
	for _, s := range append(wrong(), api.Span{}) {
		if span.Right(s) {
			t.Errorf("%v is Right", s)
		}
	}
}

// TestRightOfEach: From and To at each edge, held by where they stand among these.
func TestRightOfEach(t *testing.T) {
	l := edges()
	zero, most := slices.Index(l, 0), slices.Index(l, api.MaxNum)
	for i := range l {
		for k := range l {
			want := zero <= i && i < k && k <= most
			if got := span.Right(at(l[i], l[k])); got != want {
				t.Errorf("Right(%d, %d): %v", l[i], l[k], got)
			}
			length := 0
			if want {
				length = int(new(big.Int).Sub(big.NewInt(int64(l[k])), big.NewInt(int64(l[i]))).Int64())
			}
			if got := span.Len(at(l[i], l[k])); got != length {
				t.Errorf("Len(%d, %d): %d; want %d", l[i], l[k], got, length)
			}
		}
	}
}

func TestLen(t *testing.T) {
	for s, want := range map[api.Span]int{
		at(0, 1): 1, at(0, 5): 5, at(3, 5): 2, at(3, 4): 1, at(0, api.MaxNum): api.MaxNum, at(1, api.MaxNum): api.MaxNum - 1, at(api.MaxNum-1, api.MaxNum): 1,
	} {
		if got := span.Len(s); got != want {
			t.Errorf("Len(%v): %d; want %d", s, got, want)
		}
	}
	for _, s := range wrong() {
		if got := span.Len(s); got != 0 {
			t.Errorf("Len(%v): %d", s, got)
		}
	}
}

func TestTotal(t *testing.T) {
	whole := at(0, api.MaxNum)
	for _, c := range []struct {
		l    []api.Span
		want int
	}{
		{nil, 0},
		{list(), 0},
		{list(at(0, 5)), 5},
		{list(at(3, 5), at(10, 20)), 12},
		// Each counts, whether they stand in order, touch, have bytes in common or not.
		{list(at(10, 20), at(3, 5)), 12},
		{list(at(0, 5), at(5, 8)), 8},
		{list(at(0, 5), at(0, 5), at(1, 3)), 12},
		{list(whole), api.MaxNum},
		{list(at(0, api.MaxNum-1), at(7, 8)), api.MaxNum},
		{list(at(7, 8), at(0, api.MaxNum-1)), api.MaxNum},
		{list(at(0, api.MaxNum-5), at(0, 4)), api.MaxNum - 1},
		{list(at(0, api.MaxNum-1), at(7, 9)), api.MaxNum},
		{list(whole, at(7, 8)), api.MaxNum},
		{list(at(7, 8), whole), api.MaxNum},
		{list(at(7, 8), whole, at(9, 10)), api.MaxNum},
		{slices.Repeat(list(at(0, 1<<61)), 2), api.MaxNum},
		{list(at(0, 1<<61), at(1, 1<<61)), api.MaxNum},
		{list(at(0, 1<<61), at(2, 1<<61)), api.MaxNum - 1},
		// None of these wraps round, nor begins anew.
		{slices.Repeat(list(whole), 2), api.MaxNum},
		{slices.Repeat(list(whole), 3), api.MaxNum},
		{slices.Repeat(list(whole), 4), api.MaxNum},
		{slices.Repeat(list(whole), 5), api.MaxNum},
		{slices.Repeat(list(at(0, 1<<61)), 8), api.MaxNum},
		{slices.Repeat(list(at(0, 1<<61)), 9), api.MaxNum},
		{slices.Repeat(list(whole), 1000), api.MaxNum},
		{list(whole, whole, at(0, 1)), api.MaxNum},
		// Those that aren't Right count nothing, wherever they stand.
		{wrong(), 0},
		{append(wrong(), at(3, 7)), 4},
		{append(list(at(3, 7)), wrong()...), 4},
		{list(at(3, 7), at(9, 2), at(4, 5)), 5},
		{append(list(whole), wrong()...), api.MaxNum},
		{append(list(whole, whole), wrong()...), api.MaxNum},
		{slices.Repeat(list(at(0, 3)), 100000), 300000},
	} {
		if got := span.Total(c.l); got != c.want {
			t.Errorf("Total(%.80v): %d; want %d", c.l, got, c.want)
		}
	}
}

// TestTotalAgainstBig holds Total against sums without a limit, of all edges.
func TestTotalAgainstBig(t *testing.T) {
	var all []api.Span
	for _, a := range edges() {
		for _, b := range edges() {
			all = append(all, at(a, b))
		}
	}
	long := func(s api.Span) int64 {
		if s.From < 0 || s.To > api.MaxNum || s.To < s.From {
			return 0
		}
		return int64(s.To - s.From)
	}
	for _, a := range all {
		for _, b := range all {
			sum := new(big.Int).Add(big.NewInt(long(a)), big.NewInt(long(b)))
			want := api.MaxNum
			if sum.Cmp(big.NewInt(api.MaxNum)) < 0 {
				want = int(sum.Int64())
			}
			if got := span.Total(list(a, b)); got != want {
				t.Fatalf("Total(%v, %v): %d; want %d", a, b, got, want)
			}
		}
	}
}

func TestHas(t *testing.T) {
	l := list(at(10, 20), at(0, 1), at(15, 30), at(api.MaxNum-1, api.MaxNum))
	for _, n := range []int{10, 11, 14, 15, 19, 20, 29, 0, api.MaxNum - 1} {
		if !span.Has(l, n) {
			t.Errorf("%d isn't there", n)
		}
	}
	for _, n := range []int{9, 30, 1, -1, 5, api.MaxNum - 2, api.MaxNum, api.MaxNum + 1, math.MaxInt, math.MinInt} {
		if span.Has(l, n) {
			t.Errorf("%d is there", n)
		}
	}
	for _, n := range edges() {
		if span.Has(nil, n) || span.Has(list(), n) {
			t.Errorf("none has %d", n)
		}
		// Of those that aren't Right none has anything.
		if span.Has(wrong(), n) {
			t.Errorf("wrong ones have %d", n)
		}
		if span.Has(append(wrong(), at(2, 3)), n) != (n == 2) || span.Has(append(list(at(2, 3)), wrong()...), n) != (n == 2) {
			t.Errorf("%d beside wrong ones", n)
		}
	}
}

func TestHasOfEach(t *testing.T) {
	for _, base := range bases() {
		for _, a := range spansFrom(base) {
			for _, b := range spansFrom(base) {
				has := bytesOf(list(a, b), base)
				for i := range window {
					if got := span.Has(list(a, b), base+i); got != has[i] {
						t.Fatalf("Has(%v, %v; %d): %v", a, b, base+i, got)
					}
				}
				if span.Has(list(a, b), base-1) || span.Has(list(a, b), base+window) {
					t.Fatalf("Has(%v, %v) beyond", a, b)
				}
			}
		}
	}
}

func TestMeet(t *testing.T) {
	whole := at(0, api.MaxNum)
	for _, c := range []struct {
		a, b, want api.Span
		is         bool
	}{
		{at(0, 5), at(3, 9), at(3, 5), true},
		{at(0, 5), at(4, 9), at(4, 5), true},
		{at(0, 5), at(5, 9), api.Span{}, false}, // they touch, but have nothing in common
		{at(0, 5), at(6, 9), api.Span{}, false},
		{at(0, 5), at(0, 5), at(0, 5), true},
		{at(0, 9), at(3, 5), at(3, 5), true},
		{at(0, 9), at(0, 5), at(0, 5), true},
		{at(0, 9), at(5, 9), at(5, 9), true},
		{whole, at(0, 1), at(0, 1), true},
		{whole, whole, whole, true},
		{whole, at(api.MaxNum-1, api.MaxNum), at(api.MaxNum-1, api.MaxNum), true},
		{at(0, api.MaxNum-1), at(api.MaxNum-1, api.MaxNum), api.Span{}, false},
		{at(0, api.MaxNum-1), at(1, api.MaxNum), at(1, api.MaxNum-1), true},
		// What both would have is Right, but one of both isn't.
		{at(-1, 5), at(0, 3), api.Span{}, false},
		{at(-1, 5), whole, api.Span{}, false},
		{at(0, api.MaxNum+1), at(2, 3), api.Span{}, false},
		{at(math.MinInt, math.MaxInt), at(2, 3), api.Span{}, false},
		{at(-1, 5), at(2, math.MaxInt), api.Span{}, false},
		{api.Span{}, at(0, 1), api.Span{}, false},
		{api.Span{}, api.Span{}, api.Span{}, false},
	} {
		for _, x := range [][2]api.Span{{c.a, c.b}, {c.b, c.a}} {
			if got, is := span.Meet(x[0], x[1]); got != c.want || is != c.is {
				t.Errorf("Meet(%v, %v): %v, %v; want %v, %v", x[0], x[1], got, is, c.want, c.is)
			}
		}
	}
	for _, a := range wrong() {
		for _, b := range append(wrong(), whole, at(0, 5), at(4, 6)) {
			if got, is := span.Meet(a, b); is || got != (api.Span{}) {
				t.Errorf("Meet(%v, %v): %v, %v", a, b, got, is)
			}
			if got, is := span.Meet(b, a); is || got != (api.Span{}) {
				t.Errorf("Meet(%v, %v): %v, %v", b, a, got, is)
			}
		}
	}
}

// TestMeetOfEach holds Meet against the bytes that both have.
func TestMeetOfEach(t *testing.T) {
	for _, base := range bases() {
		for _, a := range spansFrom(base) {
			for _, b := range spansFrom(base) {
				has, other := bytesOf(list(a), base), bytesOf(list(b), base)
				for i := range window {
					has[i] = has[i] && other[i]
				}
				var got []api.Span
				s, is := span.Meet(a, b)
				if is {
					got = list(s)
				}
				if !is && s != (api.Span{}) {
					t.Fatalf("Meet(%v, %v): %v with false", a, b, s)
				}
				same(t, "Meet", got, rows(has, base), a, b)
			}
		}
	}
}

func TestResolve(t *testing.T) {
	const most = api.MaxNum
	for _, c := range []struct {
		x    api.Spec
		n    int
		want []api.Span
	}{
		{from(0), 100, list(at(0, 100))},
		{from(1), 100, list(at(1, 100))},
		{from(99), 100, list(at(99, 100))},
		{from(100), 100, nil},
		{from(101), 100, nil},
		{from(most), 100, nil},
		{both(0, 0), 100, list(at(0, 1))},
		{both(0, 4), 100, list(at(0, 5))},
		{both(3, 3), 100, list(at(3, 4))},
		{both(90, 98), 100, list(at(90, 99))},
		{both(90, 99), 100, list(at(90, 100))},
		{both(90, 100), 100, list(at(90, 100))},
		{both(90, 200), 100, list(at(90, 100))},
		{both(0, most), 100, list(at(0, 100))},
		{both(99, 99), 100, list(at(99, 100))},
		{both(99, most), 100, list(at(99, 100))},
		{both(100, 100), 100, nil},
		{both(100, 200), 100, nil},
		{both(most, most), 100, nil},
		{last(0), 100, nil},
		{last(1), 100, list(at(99, 100))},
		{last(99), 100, list(at(1, 100))},
		{last(100), 100, list(at(0, 100))},
		{last(101), 100, list(at(0, 100))},
		{last(500), 100, list(at(0, 100))},
		{last(most), 100, list(at(0, 100))},
		// one byte
		{from(0), 1, list(at(0, 1))},
		{from(1), 1, nil},
		{both(0, 0), 1, list(at(0, 1))},
		{both(0, 1), 1, list(at(0, 1))},
		{both(1, 1), 1, nil},
		{last(0), 1, nil},
		{last(1), 1, list(at(0, 1))},
		{last(2), 1, list(at(0, 1))},
		// as many as there may be
		{from(0), most, list(at(0, most))},
		{from(most - 1), most, list(at(most-1, most))},
		{from(most), most, nil},
		{both(0, most-1), most, list(at(0, most))},
		{both(0, most-2), most, list(at(0, most-1))},
		{both(0, most), most, list(at(0, most))},
		{both(most-1, most), most, list(at(most-1, most))},
		{both(most, most), most, nil},
		{last(0), most, nil},
		{last(1), most, list(at(most-1, most))},
		{last(most - 1), most, list(at(1, most))},
		{last(most), most, list(at(0, most))},
	} {
		same(t, "Resolve", span.Resolve([]api.Spec{c.x}, c.n), c.want, c.x, c.n)
	}
}

// wrongSpecs are specs that aren't spec.Right; all of them but for one thing mean something.
func wrongSpecs() []api.Spec {
	return []api.Spec{
		{}, {First: 1, Last: 2}, {Kind: 4, First: 1, Last: 2}, {Kind: -1, First: 1, Last: 2}, {Kind: math.MaxInt}, {Kind: math.MinInt},
		{Kind: api.SpecFrom, First: 1, Last: 2}, {Kind: api.SpecFrom, First: 0, Last: 1}, {Kind: api.SpecFrom, First: 0, Last: -1},
		{Kind: api.SpecLast, First: 1, Last: 2}, {Kind: api.SpecLast, First: 5, Last: 5}, {Kind: api.SpecLast, First: 5, Last: -1},
		from(-1), from(math.MinInt), from(api.MaxNum + 1), from(math.MaxInt), both(3, 1), both(1, 0), both(-1, 5), both(-5, -1), both(0, -1),
		both(0, api.MaxNum+1), both(5, math.MaxInt), both(math.MinInt, math.MaxInt), both(math.MaxInt, math.MaxInt),
		last(-1), last(math.MinInt), last(api.MaxNum + 1), last(math.MaxInt),
	}
}

// TestResolveLists: those that mean something, in order, each as often as it was asked for.
func TestResolveLists(t *testing.T) {
	for _, n := range edges() {
		same(t, "Resolve", span.Resolve(nil, n), nil, n)
		same(t, "Resolve", span.Resolve([]api.Spec{}, n), nil, n)
		for _, x := range wrongSpecs() {
			same(t, "Resolve", span.Resolve([]api.Spec{x}, n), nil, x, n)
		}
	}
	asked := []api.Spec{last(500), both(90, 200), from(100), last(0), from(99), both(3, 1), both(5, 6), both(5, 6), both(0, 9)}
	same(t, "Resolve", span.Resolve(asked, 100), list(at(0, 100), at(90, 100), at(99, 100), at(5, 7), at(5, 7), at(0, 10)), asked)
	same(t, "Resolve", span.Resolve(asked, 6), list(at(0, 6), at(5, 6), at(5, 6), at(0, 6)), asked)
	for _, n := range []int{0, -1, math.MinInt, api.MaxNum + 1, math.MaxInt} {
		same(t, "Resolve", span.Resolve(asked, n), nil, asked, n)
		same(t, "Resolve", span.Resolve([]api.Spec{from(0)}, n), nil, n)
		same(t, "Resolve", span.Resolve([]api.Spec{both(0, 0)}, n), nil, n)
		same(t, "Resolve", span.Resolve([]api.Spec{last(1)}, n), nil, n)
	}
	beside := append(append(wrongSpecs(), from(7)), wrongSpecs()...)
	same(t, "Resolve", span.Resolve(append(beside, both(1, 2)), 10), list(at(7, 10), at(1, 3)), beside)
	// More than a field may have are resolved as well.
	same(t, "Resolve", span.Resolve(slices.Repeat([]api.Spec{from(7), from(10)}, 5000), 10), slices.Repeat(list(at(7, 10)), 5000), 10)
}

// meant is which of few bytes x means, byte by byte.
func meant(x api.Spec, n int) []api.Span {
	var has [window]bool
	for b := range n {
		switch {
		case !spec.Right(x):
		case x.Kind == api.SpecFrom:
			has[b] = x.First <= b
		case x.Kind == api.SpecBoth:
			has[b] = x.First <= b && b <= x.Last
		case x.Kind == api.SpecLast:
			has[b] = n-b <= x.First
		}
	}
	return rows(has, 0)
}

// TestResolveOfEach: all small specs, of all small numbers of bytes, one by one and two by two.
func TestResolveOfEach(t *testing.T) {
	var all []api.Spec
	for kind := -1; kind <= 4; kind++ {
		for first := -2; first <= window+2; first++ {
			for end := -2; end <= window+2; end++ {
				all = append(all, api.Spec{Kind: kind, First: first, Last: end})
			}
		}
	}
	for n := range window + 1 {
		for i, x := range all {
			same(t, "Resolve", span.Resolve([]api.Spec{x}, n), meant(x, n), x, n)
			y := all[(i*31+n)%len(all)]
			same(t, "Resolve", span.Resolve([]api.Spec{x, y}, n), append(meant(x, n), meant(y, n)...), x, y, n)
		}
	}
}

// TestResolveIsWithin: at all edges, what is answered is Right and within the n bytes.
func TestResolveIsWithin(t *testing.T) {
	for kind := range 5 {
		for _, first := range edges() {
			for _, end := range edges() {
				x := api.Spec{Kind: kind, First: first, Last: end}
				for _, n := range edges() {
					l := span.Resolve([]api.Spec{x}, n)
					if len(l) > 1 || len(l) == 1 && (!spec.Right(x) || !span.Right(l[0]) || l[0].To > n) {
						t.Fatalf("Resolve(%v, %d): %v", x, n, l)
					}
				}
			}
		}
	}
}

func TestMerge(t *testing.T) {
	const most = api.MaxNum
	for _, c := range []struct {
		l    []api.Span
		gap  int
		want []api.Span
	}{
		{nil, 0, nil},
		{list(), 0, nil},
		{nil, math.MaxInt, nil},
		{wrong(), 0, nil},
		{wrong(), math.MaxInt, nil},
		{list(at(3, 5)), 0, list(at(3, 5))},
		// in order, and not
		{list(at(0, 5), at(10, 20)), 0, list(at(0, 5), at(10, 20))},
		{list(at(10, 20), at(0, 5)), 0, list(at(0, 5), at(10, 20))},
		{list(at(30, 31), at(10, 20), at(0, 5), at(22, 23)), 0, list(at(0, 5), at(10, 20), at(22, 23), at(30, 31))},
		// just alike, one within another, one byte in common, none, but they touch
		{list(at(3, 5), at(3, 5), at(3, 5)), 0, list(at(3, 5))},
		{list(at(0, 9), at(3, 5)), 0, list(at(0, 9))},
		{list(at(3, 5), at(0, 9)), 0, list(at(0, 9))},
		{list(at(0, 9), at(0, 5)), 0, list(at(0, 9))},
		{list(at(0, 5), at(0, 9)), 0, list(at(0, 9))},
		{list(at(5, 9), at(0, 9)), 0, list(at(0, 9))},
		{list(at(0, 5), at(4, 9)), 0, list(at(0, 9))},
		{list(at(4, 9), at(0, 5)), 0, list(at(0, 9))},
		{list(at(0, 5), at(5, 9)), 0, list(at(0, 9))},
		{list(at(5, 9), at(0, 5)), 0, list(at(0, 9))},
		{list(at(0, 5), at(6, 9)), 0, list(at(0, 5), at(6, 9))},
		// as many as gap between, and one more
		{list(at(0, 5), at(6, 9)), 1, list(at(0, 9))},
		{list(at(0, 5), at(7, 9)), 1, list(at(0, 5), at(7, 9))},
		{list(at(0, 5), at(7, 9)), 2, list(at(0, 9))},
		{list(at(7, 9), at(0, 5)), 2, list(at(0, 9))},
		{list(at(0, 5), at(105, 109)), 100, list(at(0, 109))},
		{list(at(0, 5), at(106, 109)), 100, list(at(0, 5), at(106, 109))},
		// The one that ends last tells, not the one that begins last.
		{list(at(0, 20), at(3, 5), at(21, 25)), 1, list(at(0, 25))},
		{list(at(0, 20), at(3, 5), at(22, 25)), 1, list(at(0, 20), at(22, 25))},
		{list(at(0, 20), at(3, 5), at(10, 12)), 0, list(at(0, 20))},
		// What was made one goes on to the next one.
		{list(at(0, 2), at(6, 8), at(4, 6), at(2, 4)), 0, list(at(0, 8))},
		{list(at(9, 10), at(6, 7), at(3, 4), at(0, 1)), 2, list(at(0, 10))},
		{list(at(9, 10), at(6, 7), at(3, 4), at(0, 1)), 1, list(at(0, 1), at(3, 4), at(6, 7), at(9, 10))},
		// a gap below 0
		{list(at(0, 5), at(5, 9)), -1, list(at(0, 9))},
		{list(at(0, 5), at(4, 9)), -1, list(at(0, 9))},
		{list(at(0, 5), at(4, 9), at(10, 11)), math.MinInt, list(at(0, 9), at(10, 11))},
		{list(at(0, 9), at(3, 5)), -100, list(at(0, 9))},
		// the greatest numbers
		{list(at(0, most)), 0, list(at(0, most))},
		{list(at(0, 1), at(most-1, most)), 0, list(at(0, 1), at(most-1, most))},
		{list(at(most-1, most), at(0, 1)), most - 2, list(at(0, most))},
		{list(at(most-1, most), at(0, 1)), most - 3, list(at(0, 1), at(most-1, most))},
		{list(at(most-1, most), at(0, 1)), most, list(at(0, most))},
		{list(at(most-1, most), at(0, 1)), most + 1, list(at(0, most))},
		{list(at(most-1, most), at(0, 1)), math.MaxInt, list(at(0, most))},
		{list(at(9, 10), at(0, 1), at(5, 6)), math.MaxInt, list(at(0, 10))},
		{list(at(0, most), at(0, most), at(most-1, most)), 0, list(at(0, most))},
		// beside some that aren't Right: these make nothing one
		{append(wrong(), at(7, 8), at(3, 5)), 0, list(at(3, 5), at(7, 8))},
		{append(list(at(7, 8), at(3, 5)), wrong()...), 0, list(at(3, 5), at(7, 8))},
		{list(at(0, 5), at(-1, 9), at(6, 9)), 0, list(at(0, 5), at(6, 9))},
		{list(at(0, 5), at(5, 5), at(6, 6), at(6, 9)), 0, list(at(0, 5), at(6, 9))},
		{list(at(0, 5), at(9, 0), at(3, most+1), at(6, 9)), 0, list(at(0, 5), at(6, 9))},
	} {
		same(t, "Merge", span.Merge(c.l, c.gap), c.want, c.l, c.gap)
	}
}

// eachList tells all lists of three at most, of those with ends within the window at base; of three there are only some.
func eachList(base int, tell func(l []api.Span)) {
	all := spansFrom(base)
	tell(nil)
	for i, a := range all {
		tell(list(a))
		for k, b := range all {
			tell(list(a, b))
			for m := (i + k) % 5; m < len(all); m += 5 {
				tell(list(a, b, all[m]))
			}
		}
	}
}

// TestMergeOfEach holds Merge against the bytes that there are, with the holes filled.
func TestMergeOfEach(t *testing.T) {
	for _, base := range bases() {
		eachList(base, func(l []api.Span) {
			before := slices.Clone(l)
			for _, gap := range []int{math.MinInt, -1, 0, 1, 2, 3, math.MaxInt} {
				same(t, "Merge", span.Merge(l, gap), rows(filled(bytesOf(l, base), gap), base), l, gap)
			}
			if !slices.Equal(l, before) {
				t.Fatalf("Merge changed what it was given: %v, now %v", before, l)
			}
		})
	}
}

// TestNothingLost: P6.4, of all small lists.
func TestNothingLost(t *testing.T) {
	for _, base := range bases() {
		eachList(base, func(l []api.Span) { nothingLost(t, l, base-1, base+window) })
	}
}

// nothingLost: Merge of l has what l has, from one place to another, is Apart, and is as Merge makes it.
func nothingLost(t *testing.T, l []api.Span, first, end int) {
	t.Helper()
	m := span.Merge(l, 0)
	for b := first; b <= end; b++ {
		if span.Has(m, b) != span.Has(l, b) {
			t.Fatalf("%v: %v; at %d they aren't the same", l, m, b)
		}
	}
	if !span.Apart(m) {
		t.Fatalf("%v: %v isn't Apart", l, m)
	}
	if again := span.Merge(m, 0); !slices.Equal(again, m) {
		t.Fatalf("%v: %v, and then %v", l, m, again)
	}
}

// TestNothingLostAtEdges: P6.4, of spans from each edge to each.
func TestNothingLostAtEdges(t *testing.T) {
	l := edges()
	var all []api.Span
	for _, a := range l {
		for _, b := range l {
			all = append(all, at(a, b))
		}
	}
	all = append(all, wrong()...)
	check := func(x []api.Span) {
		nothingLost(t, x, -3, 10)
		nothingLost(t, x, api.MaxNum-3, api.MaxNum+3)
		for _, b := range l {
			if span.Has(span.Merge(x, 0), b) != span.Has(x, b) {
				t.Fatalf("%v: at %d they aren't the same", x, b)
			}
		}
	}
	check(all)
	for i, a := range all {
		for k := i % 7; k < len(all); k += 7 {
			check(list(a, all[k]))
		}
	}
}

// scattered is so many spans within so many bytes, in no order, with the bytes that they have.
func scattered(many, bytes int) ([]api.Span, []bool) {
	l, has := make([]api.Span, many), make([]bool, bytes)
	n := uint32(1)
	next := func(most int) int {
		n = n*1664525 + 1013904223
		return int(n>>8) % most
	}
	for i := range l {
		first := next(bytes - 9)
		l[i] = at(first, first+next(9))
		for b := l[i].From; b < l[i].To; b++ {
			has[b] = true
		}
	}
	return l, has
}

// TestLongLists: a long list is put in order, and nothing of it is lost.
func TestLongLists(t *testing.T) {
	const bytes = 200000
	l, has := scattered(30000, bytes)
	m := span.Merge(l, 0)
	count := 0
	for _, is := range has {
		if is {
			count++
		}
	}
	if !span.Apart(m) || len(m) < 1000 || span.Total(m) != count {
		t.Fatalf("%d spans, %d bytes; want %d", len(m), span.Total(m), count)
	}
	for _, s := range m {
		if slices.Contains(has[s.From:s.To], false) {
			t.Fatalf("%v isn't there as a whole", s)
		}
	}
	for _, s := range list(at(0, 1), at(0, bytes), at(1000, 150000), at(bytes-1, bytes)) {
		rest := span.Minus(l, s)
		for b := s.From; b < s.To; b++ {
			has[b] = false
		}
		left := count - span.Total(meetings(m, s))
		if !span.Apart(rest) || span.Total(rest) != left || len(meetings(rest, s)) != 0 {
			t.Fatalf("without %v: %d bytes; want %d", s, span.Total(rest), left)
		}
	}
}

// meetings is what each of l has in common with s.
func meetings(l []api.Span, s api.Span) []api.Span {
	var out []api.Span
	for _, x := range l {
		if y, is := span.Meet(x, s); is {
			out = append(out, y)
		}
	}
	return out
}

func TestMinus(t *testing.T) {
	const most = api.MaxNum
	two := list(at(0, 10), at(20, 30))
	for _, c := range []struct {
		l    []api.Span
		s    api.Span
		want []api.Span
	}{
		{nil, at(0, 5), nil},
		{list(), at(0, 5), nil},
		{wrong(), at(0, 5), nil},
		// nothing
		{two, at(10, 20), two},
		{two, at(12, 15), two},
		{two, at(30, 40), two},
		{two, at(31, most), two},
		{list(at(20, 30)), at(0, 20), list(at(20, 30))},
		{list(at(20, 30)), at(0, 1), list(at(20, 30))},
		// one end
		{two, at(0, 1), list(at(1, 10), at(20, 30))},
		{two, at(0, 9), list(at(9, 10), at(20, 30))},
		{two, at(9, 10), list(at(0, 9), at(20, 30))},
		{two, at(9, 20), list(at(0, 9), at(20, 30))},
		{two, at(5, 21), list(at(0, 5), at(21, 30))},
		{two, at(29, 30), list(at(0, 10), at(20, 29))},
		{two, at(29, most), list(at(0, 10), at(20, 29))},
		{list(at(20, 30)), at(0, 21), list(at(21, 30))},
		// the midst
		{two, at(1, 9), list(at(0, 1), at(9, 10), at(20, 30))},
		{two, at(3, 4), list(at(0, 3), at(4, 10), at(20, 30))},
		{two, at(25, 26), list(at(0, 10), at(20, 25), at(26, 30))},
		// all of one, and all
		{two, at(0, 10), list(at(20, 30))},
		{two, at(0, 20), list(at(20, 30))},
		{two, at(20, 30), list(at(0, 10))},
		{two, at(10, 30), list(at(0, 10))},
		{two, at(0, 30), nil},
		{two, at(0, most), nil},
		{list(at(3, 5)), at(3, 5), nil},
		{list(at(3, 5)), at(2, 6), nil},
		// more than one of them
		{list(at(0, 2), at(4, 6), at(8, 10), at(12, 14)), at(1, 13), list(at(0, 1), at(13, 14))},
		{list(at(0, 2), at(4, 6), at(8, 10), at(12, 14)), at(2, 12), list(at(0, 2), at(12, 14))},
		// They are merged first, and put in order.
		{list(at(20, 30), at(0, 10)), at(5, 6), list(at(0, 5), at(6, 10), at(20, 30))},
		{list(at(5, 10), at(0, 5)), at(20, 21), list(at(0, 10))},
		{list(at(5, 10), at(0, 5)), at(7, 8), list(at(0, 7), at(8, 10))},
		{list(at(0, 9), at(3, 5), at(4, 12)), at(4, 5), list(at(0, 4), at(5, 12))},
		{list(at(0, 5), at(0, 5), at(6, 7)), at(2, 3), list(at(0, 2), at(3, 5), at(6, 7))},
		// the greatest numbers
		{list(at(0, most)), at(0, most), nil},
		{list(at(0, most)), at(0, 1), list(at(1, most))},
		{list(at(0, most)), at(most-1, most), list(at(0, most-1))},
		{list(at(0, most)), at(1, most-1), list(at(0, 1), at(most-1, most))},
		// beside some that aren't Right
		{append(wrong(), at(3, 7)), at(4, 5), list(at(3, 4), at(5, 7))},
		{append(list(at(3, 7)), wrong()...), at(4, 5), list(at(3, 4), at(5, 7))},
	} {
		same(t, "Minus", span.Minus(c.l, c.s), c.want, c.l, c.s)
	}
	// One that isn't Right takes nothing; the list is merged none the less.
	for _, s := range append(wrong(), at(-1, 100), at(0, most+1), at(-100, 5), api.Span{}) {
		same(t, "Minus", span.Minus(two, s), two, two, s)
		same(t, "Minus", span.Minus(list(at(20, 30), at(5, 10), at(0, 7), at(2, 2)), s), two, s)
		same(t, "Minus", span.Minus(list(at(5, 10), at(0, 5), at(0, most)), s), list(at(0, most)), s)
		same(t, "Minus", span.Minus(nil, s), nil, s)
		same(t, "Minus", span.Minus(wrong(), s), nil, s)
	}
}

// TestMinusOfEach holds Minus against the bytes that are left.
func TestMinusOfEach(t *testing.T) {
	for _, base := range bases() {
		for _, a := range spansFrom(base) {
			for _, b := range spansFrom(base) {
				l := list(a, b)
				for _, s := range spansFrom(base) {
					has, without := bytesOf(l, base), bytesOf(list(s), base)
					for i := range window {
						has[i] = has[i] && !without[i]
					}
					got := span.Minus(l, s)
					same(t, "Minus", got, rows(has, base), l, s)
					if !span.Apart(got) {
						t.Fatalf("Minus(%v, %v): %v isn't Apart", l, s, got)
					}
				}
				if !slices.Equal(l, list(a, b)) {
					t.Fatalf("Minus changed what it was given: %v, %v; now %v", a, b, l)
				}
			}
		}
	}
}

func TestApart(t *testing.T) {
	const most = api.MaxNum
	for _, l := range [][]api.Span{
		nil, {}, list(at(0, 1)), list(at(0, most)), list(at(most-1, most)), list(at(0, 5), at(6, 9)), list(at(0, 1), at(2, 3), at(4, 5)),
		list(at(0, 5), at(100, 101), at(500, most)), list(at(0, most-2), at(most-1, most)),
	} {
		if !span.Apart(l) {
			t.Errorf("%v isn't Apart", l)
		}
	}
	for _, l := range [][]api.Span{
		list(at(0, 5), at(5, 9)), list(at(0, 5), at(4, 9)), list(at(0, 5), at(0, 5)), list(at(0, 9), at(3, 5)), list(at(3, 5), at(0, 9)),
		list(at(6, 9), at(0, 5)), list(at(0, 1), at(4, 5), at(2, 3)), list(at(4, 5), at(0, 1), at(8, 9)), list(at(0, 1), at(2, 3), at(4, 5), at(5, 6)),
		list(at(0, 1), at(2, 3), at(3, 5), at(6, 7)), list(at(0, most-1), at(most-1, most)),
		{{}}, list(at(0, 1), api.Span{}), list(api.Span{}, at(0, 1)), list(at(0, 1), at(3, 3), at(5, 6)), list(at(0, 1), at(4, 3), at(5, 6)),
		list(at(-1, 1)), list(at(-5, -3), at(0, 1)), list(at(0, 1), at(2, most+1)), list(at(0, 1), at(most+1, math.MaxInt)),
	} {
		if span.Apart(l) {
			t.Errorf("%v is Apart", l)
		}
	}
	for _, s := range wrong() {
		for _, l := range [][]api.Span{list(s), list(s, at(9, 10)), list(at(0, 1), s), list(at(0, 1), s, at(9, 10))} {
			if span.Apart(l) {
				t.Errorf("%v is Apart", l)
			}
		}
	}
}

// TestApartOfEach: a list is Apart just if it is the one way to tell its bytes by rows, and nothing else is in it.
func TestApartOfEach(t *testing.T) {
	for _, base := range bases() {
		eachList(base, func(l []api.Span) {
			if got, want := span.Apart(l), slices.Equal(l, rows(bytesOf(l, base), base)); got != want {
				t.Fatalf("Apart(%v): %v", l, got)
			}
		})
	}
}

// calls are the calls that are given a list of spans and answer one, with some of their other arguments.
func calls() map[string]func(l []api.Span) []api.Span {
	return map[string]func(l []api.Span) []api.Span{
		"Merge":         func(l []api.Span) []api.Span { return span.Merge(l, 0) },
		"Merge, gap":    func(l []api.Span) []api.Span { return span.Merge(l, 3) },
		"Merge, all":    func(l []api.Span) []api.Span { return span.Merge(l, math.MaxInt) },
		"Minus":         func(l []api.Span) []api.Span { return span.Minus(l, at(4, 5)) },
		"Minus nothing": func(l []api.Span) []api.Span { return span.Minus(l, at(5000, 5001)) },
		"Minus wrong":   func(l []api.Span) []api.Span { return span.Minus(l, api.Span{}) },
		"Minus all":     func(l []api.Span) []api.Span { return span.Minus(l, at(0, api.MaxNum)) },
	}
}

// TestOwnMemory: a list that is given stays as it is, also behind its length, in its order; no answer shares memory with it, or with another one.
func TestOwnMemory(t *testing.T) {
	whole := list(at(20, 30), at(3, 7), at(9, 2), at(6, 12), at(0, 1), at(40, 41), at(1, 1000), at(0, 2000))
	rising := list(at(0, 1), at(3, 12), at(20, 30), at(40, 41), at(50, 60), at(70, 80))
	for name, call := range calls() {
		for _, given := range [][]api.Span{whole, rising} {
			for length := range len(given) + 1 {
				memory := slices.Clone(given)
				a, b := call(memory[:length]), call(memory[:length])
				if !slices.Equal(memory, given) {
					t.Fatalf("%s changed what it was given: %v", name, memory)
				}
				want := call(slices.Clip(slices.Clone(given[:length])))
				same(t, name, a, want, given[:length])
				spoil(a)
				same(t, name+", spoilt", b, want, given[:length])
				if !slices.Equal(memory, given) {
					t.Fatalf("%s answers what it was given: %v", name, memory)
				}
				spoil(memory)
				same(t, name+", spoilt", b, want, given[:length])
			}
		}
	}
}

// spoil overwrites all of l, and what its memory has behind its length.
func spoil(l []api.Span) {
	for i := range l[:cap(l)] {
		l[:cap(l)][i] = at(-77, 77)
	}
}

// TestOwnMemoryOfOthers: the other calls, too, leave what they are given as it is, and don't read behind its length.
func TestOwnMemoryOfOthers(t *testing.T) {
	whole := list(at(20, 30), at(3, 7), at(9, 2), at(6, 12), at(0, 1), at(40, 41))
	before := slices.Clone(whole)
	for length := range len(whole) + 1 {
		l := whole[:length]
		span.Total(l)
		span.Has(l, 40)
		span.Apart(l)
	}
	if span.Total(whole[:2]) != 14 || span.Has(whole[:2], 0) || span.Has(whole[:5], 40) || !span.Apart(whole[:1]) || !slices.Equal(whole, before) {
		t.Errorf("%v", whole)
	}
	asked := []api.Spec{from(7), both(5, 6), {}, last(2), from(1)}
	kept := slices.Clone(asked)
	a, b := span.Resolve(asked[:4], 10), span.Resolve(asked[:4], 10)
	spoil(a)
	asked[0] = from(9)
	same(t, "Resolve", b, list(at(7, 10), at(5, 7), at(8, 10)), kept)
	if !slices.Equal(asked[1:], kept[1:]) {
		t.Errorf("Resolve changed what it was given: %v", asked)
	}
}

// TestSameAnswers: an answer hangs on the arguments alone, not on the calls ahead of it.
func TestSameAnswers(t *testing.T) {
	l := list(at(20, 30), at(0, 5), at(5, 8), at(4, 4), at(10, 12))
	for range 3 {
		same(t, "Merge", span.Merge(l, 2), list(at(0, 12), at(20, 30)), l)
		same(t, "Merge", span.Merge(l, 0), list(at(0, 8), at(10, 12), at(20, 30)), l)
		same(t, "Minus", span.Minus(l, at(3, 25)), list(at(0, 3), at(25, 30)), l)
		same(t, "Minus", span.Minus(l, at(25, 3)), list(at(0, 8), at(10, 12), at(20, 30)), l)
		same(t, "Resolve", span.Resolve([]api.Spec{last(500)}, 100), list(at(0, 100)))
		same(t, "Resolve", span.Resolve([]api.Spec{from(100)}, 100), nil)
		if span.Total(l) != 20 || !span.Has(l, 11) || span.Has(l, 12) || span.Apart(l) || span.Right(l[3]) || span.Len(l[0]) != 10 {
			t.Errorf("%v", l)
		}
		if s, is := span.Meet(at(0, 5), at(4, 9)); s != at(4, 5) || !is {
			t.Error(s, is)
		}
	}
}
