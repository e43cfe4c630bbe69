package cuts_test

import (
	"math"
	"math/big"
	"slices"
	"testing"

	"spence/api"
	"spence/cuts"
)

// at is a span from one place to another.
func at(from, to int) api.Span { return api.Span{From: from, To: to} }

// list is spans as a list.
func list(l ...api.Span) []api.Span { return l }

// edges are numbers, rising, at which something that an int or a limit can do begins or ends.
func edges() []int {
	return []int{
		math.MinInt, math.MinInt + 1, -api.MaxNum - 1, -api.MaxNum, -1 << 32, -4096, -64, -7, -2, -1, 0, 1, 2, 3, 7, 63, 64, 65, 128,
		4032, 4095, 4096, 4097, 8192, 1 << 31, 1 << 32, 1 << 58, api.MaxNum - 1, api.MaxNum, api.MaxNum + 1, math.MaxInt - 1, math.MaxInt,
	}
}

// wrongSpans are spans that aren't Right.
func wrongSpans() []api.Span {
	return list(
		api.Span{}, at(5, 5), at(4, 4), at(api.MaxNum, api.MaxNum), at(6, 5), at(9, 0), at(-1, 0), at(-1, 5), at(-5, -1), at(0, -1), at(5, -1), at(-4, 4),
		at(0, api.MaxNum+1), at(api.MaxNum, api.MaxNum+1), at(5, math.MaxInt), at(api.MaxNum+1, api.MaxNum+2), at(0, math.MinInt),
		at(math.MinInt, 5), at(math.MinInt, math.MaxInt), at(math.MaxInt, math.MinInt), at(math.MinInt, math.MinInt), at(math.MaxInt, math.MaxInt),
	)
}

// mayBe is an independent reading of Right.
func mayBe(n, size int) bool { return n > -1 && n < 4097 && size > 0 && size < 65 }

// byHand is which bytes each slice of n bytes has, told byte by byte.
func byHand(n, size int) [][]int {
	var l [][]int
	for b := range n {
		if len(l) == 0 || len(l[len(l)-1]) == size {
			l = append(l, nil)
		}
		l[len(l)-1] = append(l[len(l)-1], b)
	}
	return l
}

// has is whether s is Right, and has byte b.
func has(s api.Span, b int) bool {
	return s.From >= 0 && s.To <= api.MaxNum && s.From <= b && b < s.To
}

// spanOf is bytes that stand one behind the other as a span; false, if there are none.
func spanOf(bytes []int) (api.Span, bool) {
	if len(bytes) == 0 {
		return api.Span{}, false
	}
	return at(bytes[0], bytes[len(bytes)-1]+1), true
}

// common is what s has of bytes.
func common(s api.Span, bytes []int) []int {
	var l []int
	for _, b := range bytes {
		if has(s, b) {
			l = append(l, b)
		}
	}
	return l
}

// covered are the slices that have a byte of l.
func covered(l []api.Span, hand [][]int) []int {
	var out []int
	for i, bytes := range hand {
		if slices.ContainsFunc(l, func(s api.Span) bool { return len(common(s, bytes)) > 0 }) {
			out = append(out, i)
		}
	}
	return out
}

// one is the slice at i, or none.
func one(hand [][]int, i int) []int {
	if i < 0 || i >= len(hand) {
		return nil
	}
	return hand[i]
}

// places are those from two ahead of the first slice to two behind the last one, and the edges.
func places(count int) []int {
	l := edges()
	for i := range count + 4 {
		l = append(l, i-2)
	}
	return l
}

// bounds holds Bounds against what it must be; no bytes: there is no such slice.
func bounds(t *testing.T, i, n, size int, bytes []int) {
	t.Helper()
	want, there := spanOf(bytes)
	if s, is := cuts.Bounds(i, n, size); s != want || is != there {
		t.Fatalf("Bounds(%d, %d, %d): %v, %v; want %v, %v", i, n, size, s, is, want, there)
	}
}

// part holds Part against what it must be; no bytes: there is nothing in common.
func part(t *testing.T, s api.Span, i, n, size int, bytes []int) {
	t.Helper()
	want, there := spanOf(bytes)
	if p, is := cuts.Part(s, i, n, size); p != want || is != there {
		t.Fatalf("Part(%v, %d, %d, %d): %v, %v; want %v, %v", s, i, n, size, p, is, want, there)
	}
}

// of holds Of against what it must be.
func of(t *testing.T, s api.Span, size, from, to int) {
	t.Helper()
	if a, b := cuts.Of(s, size); a != from || b != to {
		t.Fatalf("Of(%v, %d): %d, %d; want %d, %d", s, size, a, b, from, to)
	}
}

// cover holds Cover against what it must be.
func cover(t *testing.T, l []api.Span, n, size int, want []int) {
	t.Helper()
	if got := cuts.Cover(l, n, size); !slices.Equal(got, want) {
		t.Fatalf("Cover(%v, %d, %d): %v; want %v", l, n, size, got, want)
	}
}

// nothing holds that of such an n and size all answers are zero, but those of Of, which is given no n.
func nothing(t *testing.T, n, size int) {
	t.Helper()
	if cuts.Right(n, size) || cuts.Count(n, size) != 0 || cuts.Last(n, size) != 0 {
		t.Errorf("%d, %d: Right %v, Count %d, Last %d", n, size, cuts.Right(n, size), cuts.Count(n, size), cuts.Last(n, size))
	}
	right := list(at(0, 1), at(0, 4), at(3, 9), at(0, 4096), at(4095, 4097), at(0, api.MaxNum), at(api.MaxNum-1, api.MaxNum))
	for _, s := range append(right, wrongSpans()...) {
		for _, i := range places(3) {
			bounds(t, i, n, size, nil)
			part(t, s, i, n, size, nil)
		}
		cover(t, list(s), n, size, nil)
	}
	cover(t, right, n, size, nil)
	cover(t, nil, n, size, nil)
}

// P10.1.

func TestRight(t *testing.T) {
	for _, c := range [][2]int{{0, 1}, {0, 4}, {0, 64}, {1, 1}, {1, 64}, {10, 4}, {64, 64}, {4095, 1}, {4096, 1}, {4096, 4}, {4096, 63}, {4096, 64}} {
		if !cuts.Right(c[0], c[1]) {
			t.Errorf("%v isn't Right", c)
		}
	}
	for _, n := range edges() {
		for _, size := range edges() {
			if cuts.Right(n, size) != mayBe(n, size) {
				t.Errorf("Right(%d, %d): %v", n, size, cuts.Right(n, size))
			}
		}
	}
}

// TestNotRight: an object, or slices, that may not be: all answers are zero.
func TestNotRight(t *testing.T) {
	for _, c := range [][2]int{{-1, 4}, {-1, 1}, {-4, 4}, {-100, 64}, {4097, 1}, {4097, 4}, {4097, 64}, {4160, 64}, {10, 0}, {10, -1}, {10, -4}, {10, 65}, {10, 128}, {0, 0}, {0, 65}, {4096, 65}, {4096, 0}, {65, 65}, {-1, -1}, {-8, -4}, {4097, 65}, {-1, 65}, {4097, 0}} {
		nothing(t, c[0], c[1])
	}
	for _, n := range edges() {
		for _, size := range edges() {
			if !mayBe(n, size) {
				nothing(t, n, size)
			}
		}
	}
}

func TestCountAndLast(t *testing.T) {
	for _, c := range []struct{ n, size, count, last int }{
		{10, 4, 3, 2},
		// no bytes, and one
		{0, 1, 0, 0}, {0, 4, 0, 0}, {0, 64, 0, 0},
		{1, 1, 1, 1}, {1, 4, 1, 1}, {1, 64, 1, 1},
		// The last one is whole, has one byte fewer, or just one.
		{8, 4, 2, 4}, {7, 4, 2, 3}, {9, 4, 3, 1}, {4, 4, 1, 4}, {3, 4, 1, 3}, {5, 4, 2, 1},
		// slices of one byte
		{2, 1, 2, 1}, {10, 1, 10, 1},
		// slices of as many as there may be
		{63, 64, 1, 63}, {64, 64, 1, 64}, {65, 64, 2, 1}, {127, 64, 2, 63}, {128, 64, 2, 64}, {129, 64, 3, 1},
		// an object of as many as there may be
		{4096, 1, 4096, 1}, {4096, 2, 2048, 2}, {4096, 3, 1366, 1}, {4096, 63, 66, 1}, {4096, 64, 64, 64},
		{4095, 1, 4095, 1}, {4095, 2, 2048, 1}, {4095, 3, 1365, 3}, {4095, 63, 65, 63}, {4095, 64, 64, 63},
	} {
		if count, last := cuts.Count(c.n, c.size), cuts.Last(c.n, c.size); count != c.count || last != c.last {
			t.Errorf("%d, %d: Count %d, Last %d; want %d, %d", c.n, c.size, count, last, c.count, c.last)
		}
	}
}

func TestBounds(t *testing.T) {
	for _, c := range []struct {
		i, n, size int
		want       api.Span
	}{
		{0, 10, 4, at(0, 4)}, {1, 10, 4, at(4, 8)}, {2, 10, 4, at(8, 10)},
		{0, 8, 4, at(0, 4)}, {1, 8, 4, at(4, 8)},
		{0, 1, 1, at(0, 1)}, {0, 1, 64, at(0, 1)}, {0, 3, 4, at(0, 3)}, {0, 4, 4, at(0, 4)}, {0, 5, 4, at(0, 4)}, {1, 5, 4, at(4, 5)},
		{0, 10, 1, at(0, 1)}, {5, 10, 1, at(5, 6)}, {9, 10, 1, at(9, 10)},
		{0, 4096, 64, at(0, 64)}, {1, 4096, 64, at(64, 128)}, {63, 4096, 64, at(4032, 4096)}, {63, 4095, 64, at(4032, 4095)}, {63, 4033, 64, at(4032, 4033)}, {62, 4032, 64, at(3968, 4032)},
		{4095, 4096, 1, at(4095, 4096)}, {65, 4096, 63, at(4095, 4096)}, {64, 4095, 63, at(4032, 4095)},
	} {
		if s, is := cuts.Bounds(c.i, c.n, c.size); !is || s != c.want {
			t.Errorf("Bounds(%d, %d, %d): %v, %v; want %v", c.i, c.n, c.size, s, is, c.want)
		}
	}
	// There is none: behind the last one, ahead of the first one, and where i times size would wrap round.
	for _, c := range [][3]int{
		{3, 10, 4}, {4, 10, 4}, {2, 8, 4}, {-1, 10, 4}, {-2, 10, 4}, {1, 4, 4}, {1, 1, 1}, {0, 0, 4}, {0, 0, 1}, {0, 0, 64}, {-1, 0, 4}, {1, 0, 4},
		{64, 4096, 64}, {64, 4095, 64}, {63, 4032, 64}, {4096, 4096, 1}, {66, 4096, 63}, {-1, 4096, 64}, {-64, 4096, 64},
		{math.MaxInt, 10, 4}, {math.MinInt, 10, 4}, {1 << 62, 10, 4}, {-1 << 62, 10, 4}, {1 << 58, 4096, 64}, {-1 << 58, 4096, 64}, {1<<62 + 1, 10, 4}, {math.MaxInt, 4096, 1}, {math.MinInt, 4096, 1},
	} {
		bounds(t, c[0], c[1], c[2], nil)
	}
}

// ofSlices holds all of P10.1 of an object against its slices, told byte by byte.
func ofSlices(t *testing.T, n, size int) {
	t.Helper()
	hand := byHand(n, size)
	if !cuts.Right(n, size) || cuts.Count(n, size) != len(hand) || cuts.Last(n, size) != len(one(hand, len(hand)-1)) {
		t.Fatalf("%d, %d: %v, %d slices, the last one has %d", n, size, cuts.Right(n, size), cuts.Count(n, size), cuts.Last(n, size))
	}
	for _, i := range places(len(hand)) {
		bounds(t, i, n, size, one(hand, i))
	}
}

// TestSlicesOfEach: all small objects, those around whole slices, and the greatest ones, with slices of each size.
func TestSlicesOfEach(t *testing.T) {
	for size := 1; size <= api.MaxSlice; size++ {
		for n := range 40 {
			ofSlices(t, n, size)
		}
		for _, n := range []int{size - 1, size, size + 1, 3*size - 1, 3 * size, 3*size + 1, 63*size + 1, 64*size - 1, 64 * size, 4031, 4032, 4033, 4094, 4095, 4096} {
			ofSlices(t, n, size)
		}
	}
}

// P10.2.

func TestOf(t *testing.T) {
	for _, c := range []struct {
		s              api.Span
		size, from, to int
	}{
		{at(3, 9), 4, 0, 3},
		// within one slice: its first byte, its last one, all of it
		{at(0, 1), 4, 0, 1}, {at(3, 4), 4, 0, 1}, {at(1, 3), 4, 0, 1}, {at(0, 4), 4, 0, 1}, {at(4, 5), 4, 1, 2}, {at(5, 7), 4, 1, 2}, {at(7, 8), 4, 1, 2}, {at(4, 8), 4, 1, 2},
		// It ends, or begins, just where a slice does, and one byte beyond.
		{at(3, 8), 4, 0, 2}, {at(3, 7), 4, 0, 2}, {at(4, 9), 4, 1, 3}, {at(3, 5), 4, 0, 2}, {at(4, 12), 4, 1, 3}, {at(4, 13), 4, 1, 4}, {at(0, 5), 4, 0, 2}, {at(0, 12), 4, 0, 3},
		// slices of one byte, and of as many as there may be
		{at(0, 1), 1, 0, 1}, {at(3, 9), 1, 3, 9}, {at(0, 64), 64, 0, 1}, {at(0, 65), 64, 0, 2}, {at(63, 64), 64, 0, 1}, {at(63, 65), 64, 0, 2}, {at(64, 65), 64, 1, 2}, {at(64, 128), 64, 1, 2},
		// an object of as many as there may be, and far behind it
		{at(0, 4096), 64, 0, 64}, {at(0, 4096), 1, 0, 4096}, {at(4095, 4096), 64, 63, 64}, {at(4095, 4097), 64, 63, 65}, {at(4096, 4097), 64, 64, 65},
		{at(0, api.MaxNum), 1, 0, api.MaxNum}, {at(0, api.MaxNum), 64, 0, 1 << 56}, {at(0, api.MaxNum), 4, 0, 1 << 60},
		{at(api.MaxNum-1, api.MaxNum), 1, api.MaxNum - 1, api.MaxNum}, {at(api.MaxNum-1, api.MaxNum), 64, 1<<56 - 1, 1 << 56}, {at(1<<61, api.MaxNum), 2, 1 << 60, 1 << 61},
	} {
		of(t, c.s, c.size, c.from, c.to)
	}
}

// TestOfNothing: a span that isn't Right, or a size that may not be.
func TestOfNothing(t *testing.T) {
	for _, s := range wrongSpans() {
		for _, size := range edges() {
			of(t, s, size, 0, 0)
		}
	}
	for _, size := range edges() {
		if mayBe(0, size) {
			continue
		}
		for _, s := range list(at(0, 1), at(3, 9), at(64, 65), at(0, 4096), at(4096, 4097), at(0, api.MaxNum), at(api.MaxNum-1, api.MaxNum)) {
			of(t, s, size, 0, 0)
		}
	}
}

// TestOfEach: all spans within so many bytes, held against slices that are told byte by byte.
func TestOfEach(t *testing.T) {
	const most = 30
	for size := 1; size <= api.MaxSlice; size++ {
		hand := byHand(most, size)
		for from := -2; from <= most; from++ {
			for to := -2; to <= most; to++ {
				l := covered(list(at(from, to)), hand)
				if len(l) == 0 {
					of(t, at(from, to), size, 0, 0)
					continue
				}
				of(t, at(from, to), size, l[0], l[len(l)-1]+1)
			}
		}
	}
}

// TestOfFar: From and To at each edge, held against numbers of any size.
func TestOfFar(t *testing.T) {
	slice := func(b, size int) int {
		return int(new(big.Int).Quo(big.NewInt(int64(b)), big.NewInt(int64(size))).Int64())
	}
	for size := 1; size <= api.MaxSlice; size++ {
		for _, from := range edges() {
			for _, to := range edges() {
				if from < 0 || to > api.MaxNum || from >= to {
					of(t, at(from, to), size, 0, 0)
					continue
				}
				of(t, at(from, to), size, slice(from, size), slice(to-1, size)+1)
			}
		}
	}
}

func TestPart(t *testing.T) {
	for _, c := range []struct {
		s    api.Span
		i    int
		want api.Span
	}{
		{at(3, 9), 0, at(3, 4)}, {at(3, 9), 1, at(4, 8)}, {at(3, 9), 2, at(8, 9)},
		// within the slice, and just as long
		{at(5, 7), 1, at(5, 7)}, {at(4, 8), 1, at(4, 8)}, {at(4, 5), 1, at(4, 5)}, {at(7, 8), 1, at(7, 8)},
		// one byte in common
		{at(0, 5), 1, at(4, 5)}, {at(7, 10), 1, at(7, 8)},
		// behind the object: what is there
		{at(8, 12), 2, at(8, 10)}, {at(9, 12), 2, at(9, 10)}, {at(0, 4097), 2, at(8, 10)}, {at(0, api.MaxNum), 0, at(0, 4)}, {at(0, api.MaxNum), 1, at(4, 8)}, {at(9, api.MaxNum), 2, at(9, 10)},
	} {
		if p, is := cuts.Part(c.s, c.i, 10, 4); !is || p != c.want {
			t.Errorf("Part(%v, %d, 10, 4): %v, %v; want %v", c.s, c.i, p, is, c.want)
		}
	}
	for _, c := range []struct {
		s api.Span
		i int
	}{
		// It ends just where the slice begins, or begins where that ends.
		{at(0, 4), 1}, {at(3, 4), 1}, {at(8, 10), 1}, {at(8, 9), 1}, {at(4, 8), 0}, {at(4, 8), 2},
		// behind the object, if within what would be a whole last slice
		{at(10, 11), 2}, {at(10, 12), 2}, {at(11, 100), 2}, {at(12, 13), 2}, {at(12, 13), 3}, {at(10, api.MaxNum), 2}, {at(api.MaxNum-1, api.MaxNum), 2},
		// no such slice
		{at(0, 10), 3}, {at(0, 100), 3}, {at(12, 16), 3}, {at(0, 10), -1}, {at(0, api.MaxNum), -1}, {at(0, api.MaxNum), 3}, {at(0, 4), math.MaxInt}, {at(0, 4), math.MinInt}, {at(0, 4), 1 << 62},
	} {
		part(t, c.s, c.i, 10, 4, nil)
	}
	for _, s := range wrongSpans() {
		for _, i := range places(3) {
			part(t, s, i, 10, 4, nil)
		}
	}
}

// TestPartOfEach: each slice of each small object with each small span, those that aren't Right, too, and those behind the object.
func TestPartOfEach(t *testing.T) {
	const most = 9
	for n := range most + 1 {
		for size := 1; size <= most+1; size++ {
			hand := byHand(n, size)
			for from := -2; from <= most+size; from++ {
				for to := -2; to <= most+size; to++ {
					for i := -2; i < len(hand)+2; i++ {
						part(t, at(from, to), i, n, size, common(at(from, to), one(hand, i)))
					}
				}
			}
		}
	}
}

// TestPartAtEdges: all numbers at each edge.
func TestPartAtEdges(t *testing.T) {
	for _, n := range []int{0, 1, 63, 64, 65, 4095, 4096} {
		for _, size := range []int{1, 2, 63, 64} {
			hand := byHand(n, size)
			for _, i := range edges() {
				for _, from := range edges() {
					for _, to := range edges() {
						part(t, at(from, to), i, n, size, common(at(from, to), one(hand, i)))
					}
				}
			}
		}
	}
}

func TestCover(t *testing.T) {
	const most = api.MaxNum
	for _, c := range []struct {
		l    []api.Span
		want []int
	}{
		{nil, nil},
		{list(), nil},
		// within one slice, and just as long
		{list(at(0, 1)), []int{0}}, {list(at(3, 4)), []int{0}}, {list(at(0, 4)), []int{0}}, {list(at(4, 5)), []int{1}}, {list(at(5, 7)), []int{1}}, {list(at(4, 8)), []int{1}}, {list(at(9, 10)), []int{2}}, {list(at(8, 10)), []int{2}},
		// more than one
		{list(at(3, 5)), []int{0, 1}}, {list(at(3, 8)), []int{0, 1}}, {list(at(4, 9)), []int{1, 2}}, {list(at(3, 9)), []int{0, 1, 2}}, {list(at(0, 10)), []int{0, 1, 2}},
		// in falling order, with some between
		{list(at(9, 10), at(0, 2)), []int{0, 2}}, {list(at(8, 10), at(4, 8), at(0, 4)), []int{0, 1, 2}}, {list(at(5, 6), at(0, 1)), []int{0, 1}}, {list(at(9, 10), at(5, 6), at(0, 1)), []int{0, 1, 2}},
		// several of one slice, the same one twice, with bytes in common, one within another one
		{list(at(0, 1), at(2, 3)), []int{0}}, {list(at(2, 3), at(0, 1)), []int{0}}, {list(at(4, 5), at(4, 5)), []int{1}}, {list(at(3, 9), at(3, 9)), []int{0, 1, 2}},
		{list(at(0, 5), at(4, 6)), []int{0, 1}}, {list(at(0, 6), at(2, 4)), []int{0, 1}}, {list(at(2, 4), at(0, 6)), []int{0, 1}}, {list(at(0, 10), at(5, 6)), []int{0, 1, 2}}, {list(at(5, 6), at(0, 10), at(9, 10)), []int{0, 1, 2}},
		{list(at(0, 1), at(1, 2), at(2, 3), at(3, 4)), []int{0}}, {list(at(3, 5), at(7, 9)), []int{0, 1, 2}},
		// behind the object: in part, or whole, also within what would be a whole last slice
		{list(at(8, 12)), []int{2}}, {list(at(9, 4097)), []int{2}}, {list(at(0, most)), []int{0, 1, 2}}, {list(at(9, most)), []int{2}}, {list(at(7, most)), []int{1, 2}},
		{list(at(10, 11)), nil}, {list(at(10, 12)), nil}, {list(at(11, 12)), nil}, {list(at(11, 13)), nil}, {list(at(12, 16)), nil}, {list(at(10, most)), nil}, {list(at(most-1, most)), nil}, {list(at(10, 11), at(12, 13), at(4096, 5000)), nil},
		{list(at(10, 11), at(0, 1)), []int{0}}, {list(at(4, 5), at(most-1, most), at(12, 13)), []int{1}}, {list(at(10, 11), at(7, 8)), []int{1}},
	} {
		cover(t, c.l, 10, 4, c.want)
		// Those that aren't Right are passed over, wherever they stand.
		cover(t, append(wrongSpans(), c.l...), 10, 4, c.want)
		cover(t, append(slices.Clone(c.l), wrongSpans()...), 10, 4, c.want)
		for k := range c.l {
			cover(t, slices.Insert(slices.Clone(c.l), k, wrongSpans()...), 10, 4, c.want)
		}
	}
	cover(t, wrongSpans(), 10, 4, nil)
	for _, s := range wrongSpans() {
		cover(t, list(s), 10, 4, nil)
	}
}

// numbers are those from 0 on.
func numbers(count int) []int {
	l := make([]int, count)
	for i := range l {
		l[i] = i
	}
	return l
}

func TestCoverAtLimits(t *testing.T) {
	for size := 1; size <= api.MaxSlice; size++ {
		for _, n := range []int{0, 1, size - 1, size, size + 1, 4095, 4096} {
			hand := byHand(n, size)
			all := numbers(len(hand))
			cover(t, list(at(0, api.MaxNum)), n, size, all)
			cover(t, list(at(0, 4096)), n, size, all)
			cover(t, list(at(4000, api.MaxNum), at(1, 4001), at(0, 1)), n, size, all)
			cover(t, list(at(n, api.MaxNum)), n, size, nil)
			cover(t, list(at(n, n+size)), n, size, nil)
			cover(t, nil, n, size, nil)
			if n > 0 {
				cover(t, list(at(n-1, n)), n, size, all[len(all)-1:])
				cover(t, list(at(n-1, api.MaxNum), at(0, 1)), n, size, slices.Compact([]int{0, len(all) - 1}))
			}
		}
	}
	cover(t, list(at(4095, 4096)), 4096, 1, []int{4095})
	cover(t, list(at(4095, 4096), at(63, 65)), 4096, 64, []int{0, 1, 63})
	cover(t, list(at(0, 1)), 0, 4, nil)
	cover(t, list(at(0, 1)), 1, 64, []int{0})
	cover(t, list(at(1, 64)), 1, 64, nil)
}

// smallSpans are all spans with ends from one below 0 to most, those that aren't Right, too.
func smallSpans(most int) []api.Span {
	var l []api.Span
	for from := -1; from <= most; from++ {
		for to := -1; to <= most; to++ {
			l = append(l, at(from, to))
		}
	}
	return l
}

// coverOfEach holds Cover of each small object, with slices of each small size, of l; the list stays as it is.
func coverOfEach(t *testing.T, l []api.Span, hands map[[2]int][][]int) {
	t.Helper()
	before := slices.Clone(l)
	for c, hand := range hands {
		cover(t, l, c[0], c[1], covered(l, hand))
	}
	if !slices.Equal(l, before) {
		t.Fatalf("Cover changed what it was given: %v, now %v", before, l)
	}
}

// TestCoverOfEach: all lists of two small spans, and many of three.
func TestCoverOfEach(t *testing.T) {
	const most = 7
	hands := map[[2]int][][]int{}
	for n := range most + 1 {
		for size := 1; size <= most+1; size++ {
			hands[[2]int{n, size}] = byHand(n, size)
		}
	}
	all := smallSpans(most + 1)
	coverOfEach(t, nil, hands)
	for i, a := range all {
		coverOfEach(t, list(a), hands)
		for k, b := range all {
			coverOfEach(t, list(a, b), hands)
			for m := (i + k) % 37; m < len(all); m += 37 {
				coverOfEach(t, list(a, b, all[m]), hands)
			}
		}
	}
}

// scattered is so many spans within so many bytes, in no order.
func scattered(many, bytes int) []api.Span {
	l := make([]api.Span, many)
	n := uint32(1)
	next := func(most int) int {
		n = n*1664525 + 1013904223
		return int(n>>8) % most
	}
	for i := range l {
		from := next(bytes)
		l[i] = at(from, from+next(5))
	}
	return l
}

// TestCoverOfLongLists: long lists of short spans, of which some aren't Right, and some are behind the object.
func TestCoverOfLongLists(t *testing.T) {
	for _, many := range []int{10, 100, 1000} {
		l := scattered(many, 5000)
		for _, n := range []int{100, 4095, 4096} {
			for _, size := range []int{1, 2, 3, 7, 63, 64} {
				cover(t, l, n, size, covered(l, byHand(n, size)))
			}
		}
	}
	cover(t, scattered(1000000, 5000), 4096, 64, numbers(64))
}

// P10.3.

// TestOneBehindTheOther: the slices of each object, with each size, begin at 0, go on where the one ahead ends, and end with the object; all but the last one are whole.
func TestOneBehindTheOther(t *testing.T) {
	for n := range api.MaxLength + 1 {
		for size := 1; size <= api.MaxSlice; size++ {
			count, end := cuts.Count(n, size), 0
			for i := range count {
				s, is := cuts.Bounds(i, n, size)
				length := s.To - s.From
				if !is || s.From != end || length < 1 || length > size || i < count-1 && length != size || i == count-1 && length != cuts.Last(n, size) {
					t.Fatalf("Bounds(%d, %d, %d): %v, %v, behind %d", i, n, size, s, is, end)
				}
				end = s.To
			}
			if _, is := cuts.Bounds(count, n, size); end != n || is {
				t.Fatalf("%d, %d: the slices end at %d", n, size, end)
			}
		}
	}
}

// inOne holds that byte b is in just one slice, which Bounds, Part, Of and Cover tell alike.
func inOne(t *testing.T, b, n, size int) {
	t.Helper()
	var in []int
	for i := range cuts.Count(n, size) {
		s, _ := cuts.Bounds(i, n, size)
		p, is := cuts.Part(at(b, b+1), i, n, size)
		if is != has(s, b) || is && p != at(b, b+1) {
			t.Fatalf("byte %d of %d, slice %d of size %d: %v, %v, but %v", b, n, i, size, s, p, is)
		}
		if is {
			in = append(in, i)
		}
	}
	if len(in) != 1 {
		t.Fatalf("byte %d of %d, slices of size %d: it is in %v", b, n, size, in)
	}
	of(t, at(b, b+1), size, in[0], in[0]+1)
	cover(t, list(at(b, b+1)), n, size, in)
}

// TestEachByteInOne: all small objects, and some of the greatest ones.
func TestEachByteInOne(t *testing.T) {
	for n := range 70 {
		for size := 1; size <= api.MaxSlice; size++ {
			for b := range n {
				inOne(t, b, n, size)
			}
		}
	}
	for _, n := range []int{4033, 4095, 4096} {
		for _, size := range []int{63, 64} {
			for b := range n {
				inOne(t, b, n, size)
			}
		}
		for _, b := range []int{0, 1, 63, 64, 4032, n - 1} {
			inOne(t, b, n, 1)
			inOne(t, b, n, 2)
		}
	}
}

// TestPutTogether: the bytes of the slices, one behind the other, are those of the object; so are the parts of a span.
func TestPutTogether(t *testing.T) {
	body := make([]byte, api.MaxLength)
	for i := range body {
		body[i] = byte(i*7 + i>>8)
	}
	for _, n := range []int{0, 1, 2, 63, 64, 65, 1000, 4095, 4096} {
		for size := 1; size <= api.MaxSlice; size++ {
			for _, s := range list(at(0, n), at(0, min(1, n)), at(n/3, n/2), at(n-1, n), at(1, n)) {
				var got []byte
				for _, i := range cuts.Cover(list(s), n, size) {
					p, _ := cuts.Part(s, i, n, size)
					got = append(got, body[p.From:p.To]...)
				}
				want := ""
				if 0 <= s.From && s.From < s.To {
					want = string(body[s.From:s.To])
				}
				if string(got) != want {
					t.Fatalf("%v of %d bytes, slices of size %d: %d bytes, or others", s, n, size, len(got))
				}
			}
		}
	}
}

// TestOfAndCover: of a span within the object both tell the same slices, and each of them has a Part, and no other one.
func TestOfAndCover(t *testing.T) {
	const n = 25
	for size := 1; size <= n+1; size++ {
		for from := range n {
			for to := from + 1; to <= n; to++ {
				s := at(from, to)
				first, end := cuts.Of(s, size)
				cover(t, list(s), n, size, numbers(end)[first:])
				total := 0
				for i := range cuts.Count(n, size) {
					p, is := cuts.Part(s, i, n, size)
					if is != (first <= i && i < end) {
						t.Fatalf("Part(%v, %d, %d, %d): %v, but Of is %d, %d", s, i, n, size, is, first, end)
					}
					total += p.To - p.From
				}
				if total != to-from {
					t.Fatalf("%v of %d bytes, slices of size %d: the parts have %d", s, n, size, total)
				}
			}
		}
	}
}

// P2, P3: the rules that hold everywhere.

// TestOwnMemory: the list that Cover is given stays as it is, and isn't read behind its length; no answer shares memory with another one.
func TestOwnMemory(t *testing.T) {
	whole := list(at(9, 10), at(0, 2), at(8, 2), at(1, 3), at(20, 30), at(13, 15), at(25, 26))
	wants := [][]int{nil, {2}, {0, 2}, {0, 2}, {0, 2}, {0, 2, 5, 6, 7}, {0, 2, 3, 5, 6, 7}, {0, 2, 3, 5, 6, 7}}
	for length := range len(whole) + 1 {
		memory := slices.Clone(whole)
		a, b := cuts.Cover(memory[:length], 40, 4), cuts.Cover(memory[:length], 40, 4)
		for _, got := range [][]int{a, b} {
			if !slices.Equal(got, wants[length]) {
				t.Fatalf("Cover(%v, 40, 4): %v; want %v", memory[:length], got, wants[length])
			}
		}
		if !slices.Equal(memory, whole) {
			t.Fatalf("Cover changed what it was given: %v", memory)
		}
		for i := range a[:cap(a)] {
			a[:cap(a)][i] = -77
		}
		if !slices.Equal(b, wants[length]) {
			t.Fatalf("two answers share memory: %v", b)
		}
		cover(t, memory[:length], 40, 4, wants[length])
	}
}

// TestSameAnswers: an answer hangs on the arguments alone, not on the calls ahead of it; a nil list and an empty one are the same.
func TestSameAnswers(t *testing.T) {
	l := list(at(9, 10), at(0, 2))
	for range 3 {
		cover(t, l, 10, 4, []int{0, 2})
		cover(t, l, 4097, 4, nil)
		cover(t, nil, 10, 4, nil)
		cover(t, []api.Span{}, 10, 4, nil)
		cover(t, l[:0], 10, 4, nil)
		bounds(t, 2, 10, 4, []int{8, 9})
		bounds(t, 2, 8, 4, nil)
		part(t, at(3, 9), 1, 10, 4, []int{4, 5, 6, 7})
		part(t, at(3, 9), 1, 10, 65, nil)
		of(t, at(3, 9), 4, 0, 3)
		of(t, at(9, 3), 4, 0, 0)
		if cuts.Count(10, 4) != 3 || cuts.Count(10, 0) != 0 || cuts.Last(10, 4) != 2 || cuts.Last(-1, 4) != 0 || !cuts.Right(10, 4) || cuts.Right(10, 65) {
			t.Error(cuts.Count(10, 4), cuts.Last(10, 4), cuts.Right(10, 4))
		}
	}
}
