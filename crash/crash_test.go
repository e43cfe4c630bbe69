package crash_test

import (
	"fmt"
	"iter"
	"maps"
	"math"
	"slices"
	"strings"
	"testing"

	"spence/api"
	"spence/crash"
	"spence/flash"
)

// all is Keep with all its bits.
const all = math.MaxUint64

// small is a device's shape: two segments of three pages of 16 bytes.
var small = shape(2, 3, 16)

// shape is a device's: segments, pages of each, bytes of each page.
func shape(segments, pages, bytes int) api.Shape {
	return api.Shape{Segments: segments, Pages: pages, Bytes: bytes}
}

// plan is how a device crashes.
func plan(keep uint64, torn, cut int) api.Plan { return api.Plan{Keep: keep, Torn: torn, Cut: cut} }

// at is a page's place.
func at(seg, page int) api.Addr { return api.Addr{Segment: seg, Page: page} }

// places are all pages of a device of that shape, by rising segments, then pages.
func places(s api.Shape) []api.Addr {
	var l []api.Addr
	for seg := 0; seg < s.Segments; seg++ {
		for page := 0; page < s.Pages; page++ {
			l = append(l, at(seg, page))
		}
	}
	return l
}

// edges are numbers, rising, at which something that an int or a plan can do begins or ends.
func edges() []int {
	return []int{
		math.MinInt, math.MinInt + 1, -1 << 32, -65, -64, -63, -2, -1, 0, 1, 2, 8, 9, 10, 11, 31, 32, 33, 62, 63, 64, 65, 127, 128,
		1 << 31, 1 << 32, 1<<32 + 1, 1 << 40, math.MaxInt - 1, math.MaxInt,
	}
}

// A diary is a device, and what was done to it: the bytes of each used page, and those that aren't lasting, in the order in which they were written.
type diary struct {
	d      *flash.Device
	pages  map[api.Addr]string
	loose  []api.Addr
	writes int
}

// newDiary is one of a device all of whose pages are erased.
func newDiary(t *testing.T, s api.Shape) *diary {
	t.Helper()
	d, e := flash.New(s)
	if e != api.OK {
		t.Fatalf("New(%v): error %d", s, e)
	}
	return &diary{d: d, pages: map[api.Addr]string{}}
}

// made is a device of that shape, on which those pages are written with the same bytes, and aren't lasting.
func made(t *testing.T, s api.Shape, b string, pages ...api.Addr) *flash.Device {
	t.Helper()
	x := newDiary(t, s)
	for _, a := range pages {
		x.mustWrite(t, a, b)
	}
	return x.d
}

// paged is b as a page has it.
func paged(b string, bytes int) string { return b + strings.Repeat("\xff", bytes-len(b)) }

func (x *diary) copied() *diary {
	return &diary{d: x.d.Copy(), pages: maps.Clone(x.pages), loose: slices.Clone(x.loose), writes: x.writes}
}

// write does nothing to a page that is used already.
func (x *diary) write(a api.Addr, b string) bool {
	x.writes++
	if x.d.Write(a.Segment, a.Page, []byte(b)) != api.OK {
		return false
	}
	x.pages[a] = paged(b, x.d.Shape().Bytes)
	x.loose = append(x.loose, a)
	return true
}

func (x *diary) mustWrite(t *testing.T, a api.Addr, b string) {
	t.Helper()
	if !x.write(a, b) {
		t.Fatalf("Write of %v, %q", a, b)
	}
}

// fill writes those pages, each with bytes of its own: as many as a page has, but for some.
func (x *diary) fill(t *testing.T, pages ...api.Addr) {
	t.Helper()
	for _, a := range pages {
		x.mustWrite(t, a, x.fresh(x.d.Shape().Bytes-x.writes%3))
	}
}

// fresh is so many bytes that tell which write it is; where there are many, FF is among them.
func (x *diary) fresh(n int) string {
	b := make([]byte, n)
	for i := range b {
		b[i] = byte(250 + x.writes*7 + i)
	}
	return string(b)
}

func (x *diary) sync() {
	x.d.Sync()
	x.loose = nil
}

func (x *diary) erase(seg int) {
	x.d.Erase(seg)
	maps.DeleteFunc(x.pages, func(a api.Addr, _ string) bool { return a.Segment == seg })
	x.loose = slices.DeleteFunc(x.loose, func(a api.Addr) bool { return a.Segment == seg })
}

func (x *diary) crash(p api.Plan) {
	x.pages = x.after(p)
	x.loose = nil
	x.d.Crash(p)
}

// after are the pages behind a crash, as layer 11 says: an independent reading, page by page.
func (x *diary) after(p api.Plan) map[api.Addr]string {
	bits := fmt.Sprintf("%064b", p.Keep)
	out := map[api.Addr]string{}
	for a, b := range x.pages {
		i := slices.Index(x.loose, a)
		switch {
		case i >= 0 && i == p.Torn:
			if p.Cut > 0 {
				out[a] = paged(b[:min(p.Cut, len(b))], len(b))
			}
		case i < 0 || i < 64 && bits[63-i] == '1':
			out[a] = b
		}
	}
	return out
}

// pagesOf are the used pages of a device with their bytes, asked one by one.
func pagesOf(d *flash.Device) map[api.Addr]string {
	out := map[api.Addr]string{}
	for _, a := range places(d.Shape()) {
		if d.Used(a.Segment, a.Page) {
			b, _ := d.Read(a.Segment, a.Page)
			out[a] = string(b)
		}
	}
	return out
}

// pagesAre holds the used pages of a device, and their bytes.
func pagesAre(t *testing.T, d *flash.Device, want map[api.Addr]string) {
	t.Helper()
	if got := pagesOf(d); !maps.Equal(got, want) {
		t.Fatalf("pages %x; want %x", got, want)
	}
}

// stays holds a device against its diary: its pages, their bytes, how many aren't lasting, and which ones.
func (x *diary) stays(t *testing.T) {
	t.Helper()
	pagesAre(t, x.d, x.pages)
	if n := x.d.Dirty(); n != len(x.loose) {
		t.Fatalf("Dirty: %d; want %d", n, len(x.loose))
	}
	for i := range min(len(x.loose), 64) {
		p, c := plan(1<<i, i/2, 1), x.d.Copy()
		c.Crash(p)
		pagesAre(t, c, x.after(p))
	}
}

// P12.1.

// keepsByText is an independent reading: the number's bits as a text.
func keepsByText(p api.Plan, i int) bool {
	bits := fmt.Sprintf("%064b", p.Keep)
	for k := range 64 {
		if k == i && k != p.Torn {
			return bits[63-k] == '1'
		}
	}
	return false
}

// keepSets are numbers as Keep: no bit, each bit, each bit alone left out, all bits, and some.
func keepSets() []uint64 {
	l := []uint64{0, all, 0xAAAAAAAAAAAAAAAA, 0x5555555555555555, 0xFFFFFFFF, 0xFFFFFFFF00000000}
	for bit := range 64 {
		l = append(l, 1<<bit, all-1<<bit)
	}
	return l
}

func TestKeeps(t *testing.T) {
	places := edges()
	for i := -2; i <= 66; i++ {
		places = append(places, i)
	}
	for _, keep := range keepSets() {
		for _, i := range places {
			// Beside each end of the numbers there is the other end.
			for _, torn := range append(edges(), i-1, i, i+1) {
				for _, cut := range []int{math.MinInt, 0, 16} {
					p := plan(keep, torn, cut)
					if got, want := crash.Keeps(p, i), keepsByText(p, i); got != want {
						t.Fatalf("Keeps(%v, %d): %v; want %v", p, i, got, want)
					}
				}
			}
		}
	}
}

// TestKeepsByHand: each condition alone.
func TestKeepsByHand(t *testing.T) {
	for _, c := range []struct {
		p    api.Plan
		i    int
		want bool
	}{
		{plan(8, -1, 0), 3, true}, {plan(8, -1, 0), 2, false}, {plan(8, -1, 0), 4, false}, {plan(8, 3, 0), 3, false}, {plan(8, 3, 16), 3, false}, {plan(8, 2, 0), 3, true}, {plan(8, 4, 0), 3, true},
		{plan(all, -1, 0), 0, true}, {plan(all, -1, 0), 63, true}, {plan(all, -1, 0), 64, false}, {plan(all, -1, 0), -1, false}, {plan(all, 0, 0), -1, false}, {plan(all, 0, 0), 64, false},
		{plan(all, math.MinInt, 0), 0, true}, {plan(all, math.MaxInt, 0), 63, true}, {plan(all, -1, 0), math.MinInt, false}, {plan(all, -1, 0), math.MaxInt, false},
		{plan(1<<63, -1, 0), 63, true}, {plan(1<<63, 63, 0), 63, false}, {plan(1<<63, 64, 0), 63, true}, {plan(1, -1, 0), 0, true}, {plan(1, 0, 0), 0, false}, {plan(1, -1, 0), 64, false},
		{plan(0, -1, 0), 0, false}, {plan(0, 0, 0), 0, false}, {api.Plan{}, 0, false},
	} {
		if got := crash.Keeps(c.p, c.i); got != c.want {
			t.Errorf("Keeps(%v, %d): %v", c.p, c.i, got)
		}
	}
}

// TestKeepsOfCrash: the pages that Keeps tells are those that are left of more than there are bits, but for the torn one.
func TestKeepsOfCrash(t *testing.T) {
	s := shape(3, 30, 16)
	x := newDiary(t, s)
	for i := range 90 {
		x.fill(t, at(i*37%90/30, i*37%30))
	}
	for _, keep := range keepSets() {
		for _, torn := range []int{-1, 0, 20, 63, 64, 80} {
			p := plan(keep, torn, 0)
			c := crash.After(x.d, p)
			for i, a := range x.loose {
				if crash.Keeps(p, i) != c.Used(a.Segment, a.Page) {
					t.Fatalf("Keeps(%v, %d): %v", p, i, crash.Keeps(p, i))
				}
			}
		}
	}
}

// orders are pages of a small device in the order in which they are written; as many of the first ones as synced says are lasting.
func orders() []struct {
	pages  []api.Addr
	synced int
} {
	l := []struct {
		pages  []api.Addr
		synced int
	}{{}, {pages: []api.Addr{at(1, 2)}}, {pages: places(small)}}
	for synced := range 6 {
		l = append(l, struct {
			pages  []api.Addr
			synced int
		}{[]api.Addr{at(1, 2), at(0, 1), at(1, 0), at(0, 2), at(0, 0)}, synced})
	}
	return l
}

// TestAfter: the answer has the pages that Crash leaves, all of them lasting; the device that it was made of stays as it was.
func TestAfter(t *testing.T) {
	for _, o := range orders() {
		x := newDiary(t, small)
		x.fill(t, o.pages[:o.synced]...)
		x.sync()
		x.fill(t, o.pages[o.synced:]...)
		try := func(p api.Plan) {
			t.Helper()
			c := crash.After(x.d, p)
			pagesAre(t, c, x.after(p))
			if c == x.d || c.Dirty() != 0 || c.Shape() != small {
				t.Fatalf("After(%v): Dirty %d, Shape %v", p, c.Dirty(), c.Shape())
			}
		}
		for keep := range uint64(64) {
			for torn := -2; torn <= 7; torn++ {
				for _, cut := range []int{math.MinInt, -1, 0, 1, 9, 15, 16, 17, math.MaxInt} {
					try(plan(keep, torn, cut))
				}
			}
		}
		for _, torn := range edges() {
			try(plan(all, torn, 3))
			try(plan(0b10110, torn, 0))
		}
		x.stays(t)
	}
}

// TestAfterOwnWay: what is done to the answer isn't seen in the device, nor the other way round, nor in another answer.
func TestAfterOwnWay(t *testing.T) {
	start := func() *diary {
		x := newDiary(t, small)
		x.fill(t, at(0, 0), at(1, 1))
		x.sync()
		x.fill(t, at(1, 0), at(0, 2))
		return x
	}
	for i, deed := range append(deeds(small), (*diary).sync) {
		p := plan(0b10, 0, 5)
		x := start()
		c, other := crash.After(x.d, p), crash.After(x.d, p)
		y := &diary{d: c, pages: x.after(p), writes: 50 + i}
		deed(y)
		x.stays(t)
		y.stays(t)
		pagesAre(t, other, x.after(p))
		want := x.after(p)
		deed(x)
		x.stays(t)
		y.stays(t)
		pagesAre(t, other, want)
	}
}

// TestAfterCrash: behind a crash all is lasting, so another one changes nothing.
func TestAfterCrash(t *testing.T) {
	x := newDiary(t, small)
	x.fill(t, places(small)...)
	for p := range crash.Torn(3, 4) {
		c := crash.After(x.d, p)
		for q := range crash.All(3) {
			pagesAre(t, crash.After(c, q), x.after(p))
		}
	}
}

// P12.2.

// keepsOf are the numbers as Keep that All(n) has: those of one page fewer, and they again with its bit.
func keepsOf(n int) []uint64 {
	switch {
	case n <= 0:
		return []uint64{0}
	case n > 10:
		return keepsOf(10)
	}
	out := keepsOf(n - 1)
	for _, k := range slices.Clone(out) {
		out = append(out, k+1<<(n-1))
	}
	return out
}

// allOf is an independent reading of All.
func allOf(n int) []api.Plan {
	var out []api.Plan
	for _, k := range keepsOf(n) {
		out = append(out, plan(k, -1, 0))
	}
	return out
}

// tornOf is an independent reading of Torn.
func tornOf(n, cut int) []api.Plan {
	var out []api.Plan
	for _, k := range keepsOf(n) {
		for i := 0; i < n && i < 10; i++ {
			out = append(out, plan(k, i, cut))
		}
	}
	return out
}

// told holds what is told: to its end, twice, left at each plan of few and at some of many, one within the other, and turn by turn.
func told(t *testing.T, what string, seq iter.Seq[api.Plan], want []api.Plan) {
	t.Helper()
	for range 2 {
		if got := slices.Collect(seq); !slices.Equal(got, want) {
			t.Fatalf("%s: %v; want %v", what, got, want)
		}
	}
	for _, n := range []int{1, 2, 3, len(want) / 2, len(want) - 1, len(want)} {
		if n > 0 && n <= len(want) {
			left(t, what, seq, want[:n])
		}
	}
	within(t, what, seq, want)
	turnByTurn(t, what, seq, want)
	if got := slices.Collect(seq); !slices.Equal(got, want) {
		t.Fatalf("%s, once more: %v; want %v", what, got, want)
	}
}

// left leaves at the last one of want: by break, by return, and by an answer behind which nothing may be told.
func left(t *testing.T, what string, seq iter.Seq[api.Plan], want []api.Plan) {
	t.Helper()
	var got []api.Plan
	for p := range seq {
		got = append(got, p)
		if len(got) == len(want) {
			break
		}
	}
	returned := func() (l []api.Plan) {
		for p := range seq {
			if l = append(l, p); len(l) == len(want) {
				return l
			}
		}
		return nil
	}()
	var called []api.Plan
	seq(func(p api.Plan) bool {
		called = append(called, p)
		return len(called) < len(want)
	})
	for _, l := range [][]api.Plan{got, returned, called} {
		if !slices.Equal(l, want) {
			t.Fatalf("%s, left at plan %d: %v; want %v", what, len(want), l, want)
		}
	}
}

// within tells seq within itself: at its first plan, at one in the middle, and at the last one; the inner one to its end, and left.
func within(t *testing.T, what string, seq iter.Seq[api.Plan], want []api.Plan) {
	t.Helper()
	var outer []api.Plan
	for p := range seq {
		if i := len(outer); i == 0 || i == len(want)/2 || i == len(want)-1 {
			if got := slices.Collect(seq); !slices.Equal(got, want) {
				t.Fatalf("%s, within itself: %v; want %v", what, got, want)
			}
			for range seq {
				break
			}
		}
		outer = append(outer, p)
	}
	if !slices.Equal(outer, want) {
		t.Fatalf("%s, around itself: %v; want %v", what, outer, want)
	}
}

// turnByTurn tells seq twice at the same time, the one a plan ahead.
func turnByTurn(t *testing.T, what string, seq iter.Seq[api.Plan], want []api.Plan) {
	t.Helper()
	first, stopFirst := iter.Pull(seq)
	defer stopFirst()
	second, stopSecond := iter.Pull(seq)
	defer stopSecond()
	first()
	for i, w := range want {
		ahead, more := first()
		p, is := second()
		if p != w || !is || more != (i+1 < len(want)) || more && ahead != want[i+1] {
			t.Fatalf("%s, turn by turn: plan %d is %v, %v, ahead of it %v, %v", what, i, p, is, ahead, more)
		}
	}
	if p, is := second(); is {
		t.Fatalf("%s, turn by turn: %v behind the last one", what, p)
	}
}

// numbers are those that All and Torn are given: all about the limit, and edges.
func numbers() []int {
	l := edges()
	for n := -3; n <= 14; n++ {
		l = append(l, n)
	}
	return l
}

func TestAll(t *testing.T) {
	for _, n := range numbers() {
		want := allOf(n)
		if len(want) != 1<<min(max(n, 0), 10) {
			t.Fatalf("%d pages: %d plans", n, len(want))
		}
		told(t, fmt.Sprintf("All(%d)", n), crash.All(n), want)
	}
}

// TestAllByHand: the chapter's example, and the plans at the ends.
func TestAllByHand(t *testing.T) {
	told(t, "All(2)", crash.All(2), []api.Plan{plan(0, -1, 0), plan(1, -1, 0), plan(2, -1, 0), plan(3, -1, 0)})
	told(t, "All(1)", crash.All(1), []api.Plan{plan(0, -1, 0), plan(1, -1, 0)})
	for _, n := range []int{math.MinInt, -1, 0} {
		told(t, "All of no page", crash.All(n), []api.Plan{plan(0, -1, 0)})
	}
	for _, n := range []int{10, 11, 64, math.MaxInt} {
		l := slices.Collect(crash.All(n))
		if len(l) != 1024 || l[0] != plan(0, -1, 0) || l[1023] != plan(1023, -1, 0) {
			t.Fatalf("All(%d): %d plans", n, len(l))
		}
	}
	if l := slices.Collect(crash.All(9)); len(l) != 512 || l[511] != plan(511, -1, 0) {
		t.Fatalf("All(9): %d plans", len(l))
	}
}

func TestTorn(t *testing.T) {
	for _, n := range numbers() {
		want := tornOf(n, 5)
		told(t, fmt.Sprintf("Torn(%d, 5)", n), crash.Torn(n, 5), want)
	}
	for n := -1; n <= 4; n++ {
		for _, cut := range edges() {
			told(t, fmt.Sprintf("Torn(%d, %d)", n, cut), crash.Torn(n, cut), tornOf(n, cut))
		}
	}
	for _, cut := range []int{math.MinInt, -1, 0, 17, math.MaxInt} {
		told(t, fmt.Sprintf("Torn(11, %d)", cut), crash.Torn(11, cut), tornOf(10, cut))
	}
}

// TestTornByHand: the rows at the ends.
func TestTornByHand(t *testing.T) {
	told(t, "Torn(1, -7)", crash.Torn(1, -7), []api.Plan{plan(0, 0, -7), plan(1, 0, -7)})
	told(t, "Torn(2, 3)", crash.Torn(2, 3), []api.Plan{
		plan(0, 0, 3), plan(0, 1, 3), plan(1, 0, 3), plan(1, 1, 3), plan(2, 0, 3), plan(2, 1, 3), plan(3, 0, 3), plan(3, 1, 3),
	})
	for _, n := range []int{math.MinInt, -1, 0} {
		told(t, "Torn of no page", crash.Torn(n, 3), nil)
	}
	for _, n := range []int{10, 11, 64, math.MaxInt} {
		l := slices.Collect(crash.Torn(n, 3))
		if len(l) != 10240 || l[0] != plan(0, 0, 3) || l[9] != plan(0, 9, 3) || l[10239] != plan(1023, 9, 3) {
			t.Fatalf("Torn(%d, 3): %d plans", n, len(l))
		}
	}
}

// TestOneWithinTheOther: All in Torn, and Torn in All.
func TestOneWithinTheOther(t *testing.T) {
	var outer, inner []api.Plan
	for p := range crash.All(3) {
		outer = append(outer, p)
		for q := range crash.Torn(2, int(p.Keep)) {
			inner = append(inner, q)
			for range crash.All(9) {
				break
			}
			if q.Keep == 2 {
				break
			}
		}
	}
	var want []api.Plan
	for i := range 8 {
		want = append(want, tornOf(2, i)[:5]...)
	}
	if !slices.Equal(outer, allOf(3)) || !slices.Equal(inner, want) {
		t.Fatalf("%v around %v", outer, inner)
	}
}

// P12.3: pages.

// pagesTold holds Pages of a device, which stays as it is, against places that rise.
func pagesTold(t *testing.T, d *flash.Device, want []api.Addr) {
	t.Helper()
	dirty, had := d.Dirty(), pagesOf(d)
	got := crash.Pages(d)
	if !slices.Equal(got, want) {
		t.Fatalf("Pages: %v; want %v", got, want)
	}
	for i := range got {
		got[i] = at(-7, -7)
	}
	if got = crash.Pages(d); !slices.Equal(got, want) {
		t.Fatalf("Pages once more: %v; want %v", got, want)
	}
	pagesAre(t, d, had)
	if d.Dirty() != dirty {
		t.Fatalf("Dirty: %d; want %d", d.Dirty(), dirty)
	}
}

// TestPages: none, one, and all pages of devices of some shapes, written in another order than theirs.
func TestPages(t *testing.T) {
	for _, s := range []api.Shape{shape(1, 1, 16), shape(1, 5, 17), shape(7, 1, 16), small, shape(16, 64, 256)} {
		pagesTold(t, made(t, s, ""), nil)
		l := places(s)
		for i, a := range l {
			if i < 70 || i > len(l)-3 {
				pagesTold(t, made(t, s, "x", a), l[i:i+1])
			}
		}
		back := slices.Clone(l)
		slices.Reverse(back)
		pagesTold(t, made(t, s, "", back...), l)
		x := newDiary(t, s)
		x.fill(t, back...)
		x.sync()
		pagesTold(t, x.d, l)
	}
	s := shape(16, 64, 16)
	corners := []api.Addr{at(0, 0), at(0, 63), at(15, 0), at(15, 63)}
	pagesTold(t, made(t, s, "x", corners[3], corners[1], corners[0], corners[2]), corners)
}

// TestPagesOfSome: each set of pages of a small device, lasting or not, also behind an erase and a crash.
func TestPagesOfSome(t *testing.T) {
	l := places(small)
	for set := range 1 << len(l) {
		x := newDiary(t, small)
		var want []api.Addr
		for i := range l {
			// 5 and 6 have no number in common but 1: each place once, in an order that isn't a rising one.
			k := i * 5 % 6
			if set>>k&1 == 1 {
				x.fill(t, l[k])
			}
			if set>>i&1 == 1 {
				want = append(want, l[i])
			}
		}
		pagesTold(t, x.d, want)
		for p := range crash.All(len(want)) {
			var kept []api.Addr
			for _, a := range want {
				if crash.Keeps(p, slices.Index(x.loose, a)) {
					kept = append(kept, a)
				}
			}
			pagesTold(t, crash.After(x.d, p), kept)
		}
		x.erase(0)
		pagesTold(t, x.d, slices.DeleteFunc(slices.Clone(want), func(a api.Addr) bool { return a.Segment == 0 }))
		x.sync()
		x.erase(1)
		pagesTold(t, x.d, nil)
	}
}

// P12.3: devices held against each other.

// held holds Same and Within of two devices, both ways, and each of them of itself; both stay as they are.
func held(t *testing.T, what string, a, b *flash.Device, same, ab, ba bool) {
	t.Helper()
	hadA, hadB, dirtyA, dirtyB := pagesOf(a), pagesOf(b), a.Dirty(), b.Dirty()
	for range 2 {
		if crash.Same(a, b) != same || crash.Same(b, a) != same {
			t.Fatalf("%s: Same %v, %v; want %v", what, crash.Same(a, b), crash.Same(b, a), same)
		}
		if crash.Within(a, b) != ab || crash.Within(b, a) != ba {
			t.Fatalf("%s: Within %v, %v; want %v, %v", what, crash.Within(a, b), crash.Within(b, a), ab, ba)
		}
		for _, d := range []*flash.Device{a, b} {
			if !crash.Same(d, d) || !crash.Within(d, d) || !crash.Same(d, d.Copy()) || !crash.Within(d.Copy(), d) {
				t.Fatalf("%s: a device isn't Same as itself", what)
			}
		}
	}
	pagesAre(t, a, hadA)
	pagesAre(t, b, hadB)
	if a.Dirty() != dirtyA || b.Dirty() != dirtyB {
		t.Fatalf("%s: Dirty %d, %d; want %d, %d", what, a.Dirty(), b.Dirty(), dirtyA, dirtyB)
	}
}

// TestUnlikeShapes: one of the three numbers is another one, with no page used, and with the same ones.
func TestUnlikeShapes(t *testing.T) {
	for _, s := range []api.Shape{shape(1, 2, 17), shape(3, 2, 17), shape(2, 1, 17), shape(2, 3, 17), shape(2, 2, 16), shape(2, 2, 18), shape(3, 3, 18), shape(4, 1, 17), shape(1, 4, 17)} {
		held(t, "empty", made(t, s, ""), made(t, shape(2, 2, 17), ""), false, false, false)
		held(t, "alike", made(t, s, "abc", at(0, 0)), made(t, shape(2, 2, 17), "abc", at(0, 0)), false, false, false)
		held(t, "one empty", made(t, s, ""), made(t, shape(2, 2, 17), "abc", at(0, 0)), false, false, false)
	}
	for _, s := range []api.Shape{shape(1, 1, 16), small, shape(16, 64, 256)} {
		held(t, "empty, of one shape", made(t, s, ""), made(t, s, ""), true, true, true)
	}
}

// TestOtherByte: the same pages, of which one has another byte at one place; the byte that is FF there is Within, if it is the last one that was written.
func TestOtherByte(t *testing.T) {
	text := "0123456789abcdef"
	for _, a := range places(small) {
		for i := range text {
			for _, c := range []string{"\x00", "X", "\xfe"} {
				changed := text[:i] + c + text[i+1:]
				x, y := newDiary(t, small), newDiary(t, small)
				for _, b := range places(small) {
					x.mustWrite(t, b, text)
					if b == a {
						y.mustWrite(t, b, changed)
					} else {
						y.mustWrite(t, b, text)
					}
				}
				held(t, "another byte", x.d, y.d, false, false, false)
			}
			hole := made(t, small, text[:i]+"\xff"+text[i+1:], a)
			held(t, "FF", hole, made(t, small, text, a), false, i == 15, false)
		}
	}
}

// TestUsedInOne: a page that is used in the one alone; in which one it is, and with which bytes.
func TestUsedInOne(t *testing.T) {
	for _, more := range places(small) {
		rest := slices.DeleteFunc(places(small), func(a api.Addr) bool { return a == more })
		for _, b := range []string{"", "\xff", "\x00", "abc", "0123456789abcdef", strings.Repeat("\xff", 16)} {
			held(t, "one page", made(t, small, b, more), made(t, small, b), false, false, true)
			held(t, "one page more", made(t, small, b, places(small)...), made(t, small, b, rest...), false, false, true)
			held(t, "one page each", made(t, small, b, more), made(t, small, b, rest[0]), false, false, false)
			held(t, "others", made(t, small, b, more), made(t, small, b, rest...), false, false, false)
		}
	}
}

// TestNoBytes: a page that has no bytes is used, and has FF.
func TestNoBytes(t *testing.T) {
	none := made(t, small, "", at(1, 1))
	held(t, "not used", none, made(t, small, ""), false, false, true)
	for n := range 17 {
		held(t, "FF alone", none, made(t, small, strings.Repeat("\xff", n), at(1, 1)), true, true, true)
	}
	// It has none of the other one's first bytes, and FF behind.
	held(t, "some bytes", none, made(t, small, "a", at(1, 1)), false, true, false)
	held(t, "a byte behind FF", none, made(t, small, "\xffa", at(1, 1)), false, true, false)
}

// TestFirstBytes: a page that has so many of the other one's first bytes, and FF behind, or another byte somewhere behind. No text has FF at its end.
func TestFirstBytes(t *testing.T) {
	for _, text := range []string{"0123456789abcdef", "0123456789abcd", "\x00\x00\x00", "\xff\xff1", "1\xff\xff2\xff3", "\xfe"} {
		whole := made(t, small, text, at(0, 2))
		for n := range len(text) + 1 {
			each := n == len(text)
			for end := n; end <= 16; end++ {
				first := text[:n] + strings.Repeat("\xff", end-n)
				held(t, "first bytes", made(t, small, first, at(0, 2)), whole, each, true, each)
				if end < 16 {
					held(t, "another byte behind", made(t, small, first+"!", at(0, 2)), whole, false, false, each)
				}
			}
		}
	}
	held(t, "more bytes", made(t, small, "abc", at(0, 2)), made(t, small, "ab", at(0, 2)), false, false, true)
	held(t, "each has more", made(t, small, "ab", at(0, 0)), made(t, small, "a", at(0, 1)), false, false, false)
	held(t, "first bytes of another page", made(t, small, "a", at(0, 0)), made(t, small, "ab", at(0, 1)), false, false, false)
}

// leftOf is an independent reading of what a page may be: so many first bytes, and FF behind, of each number of them.
func leftOf(page, whole string) bool {
	for n := range len(whole) + 1 {
		if page == paged(whole[:n], len(whole)) {
			return true
		}
	}
	return false
}

// withinOf is an independent reading of Within, of devices of one shape.
func withinOf(a, b map[api.Addr]string) bool {
	for at, page := range a {
		if whole, used := b[at]; !used || !leftOf(page, whole) {
			return false
		}
	}
	return true
}

// heldAll holds all pairs of devices of one shape.
func heldAll(t *testing.T, l []*flash.Device) {
	t.Helper()
	var pages []map[api.Addr]string
	for _, d := range l {
		pages = append(pages, pagesOf(d))
	}
	for i, a := range l {
		for k, b := range l {
			same, ab := maps.Equal(pages[i], pages[k]), withinOf(pages[i], pages[k])
			if crash.Same(a, b) != same || crash.Within(a, b) != ab {
				t.Fatalf("%x and %x: Same %v, Within %v; want %v, %v", pages[i], pages[k], crash.Same(a, b), crash.Within(a, b), same, ab)
			}
		}
	}
}

// TestPairsOfPages: all pairs of a page that isn't used, that has no bytes, or up to three of some, also the last ones of the page.
func TestPairsOfPages(t *testing.T) {
	texts := []string{""}
	for i := 0; len(texts) < 85; i++ {
		for _, c := range []string{"\x00", "a", "\xfe", "\xff"} {
			texts = append(texts, texts[i]+c)
		}
	}
	for _, ahead := range []string{"", "0123456789abc"} {
		l := []*flash.Device{made(t, small, "")}
		for _, b := range texts {
			l = append(l, made(t, small, ahead+b, at(1, 0)))
		}
		heldAll(t, l)
	}
}

// TestPairsOfDevices: all pairs of devices of three pages, each of which isn't used, or has some bytes.
func TestPairsOfDevices(t *testing.T) {
	s := shape(2, 2, 16)
	texts := []string{"", "a", "ab", "b", "\xffa"}
	var l []*flash.Device
	for i := range 6 * 6 * 6 {
		x := newDiary(t, s)
		for _, a := range []api.Addr{at(1, 1), at(0, 0), at(1, 0)} {
			if k := i % 6; k > 0 {
				x.mustWrite(t, a, texts[k-1])
			}
			i /= 6
		}
		l = append(l, x.d)
	}
	heldAll(t, l)
}

// TestCopies: a device with a copy of it that is written, erased, crashed or synced.
func TestCopies(t *testing.T) {
	x := newDiary(t, small)
	x.fill(t, at(1, 0), at(0, 1))
	x.sync()
	x.fill(t, at(1, 2), at(0, 0))
	for _, c := range []struct {
		what         string
		deed         func(y *diary)
		same, ab, ba bool
	}{
		{"as it is", func(y *diary) {}, true, true, true},
		{"synced", func(y *diary) { y.sync() }, true, true, true},
		{"written", func(y *diary) { y.write(at(0, 2), "x") }, false, true, false},
		{"written with no bytes", func(y *diary) { y.write(at(0, 2), "") }, false, true, false},
		{"written where it was", func(y *diary) { y.write(at(0, 1), "x") }, true, true, true},
		{"erased", func(y *diary) { y.erase(1) }, false, false, true},
		{"erased where there is none", func(y *diary) { y.erase(2) }, true, true, true},
		{"erased and written", func(y *diary) { y.erase(0); y.write(at(0, 1), "x") }, false, false, false},
		{"crashed", func(y *diary) { y.crash(plan(0, -1, 0)) }, false, false, true},
		{"crashed, one is kept", func(y *diary) { y.crash(plan(2, -1, 0)) }, false, false, true},
		{"crashed, all are kept", func(y *diary) { y.crash(plan(3, -1, 0)) }, true, true, true},
		{"crashed, one is torn", func(y *diary) { y.crash(plan(3, 1, 1)) }, false, false, true},
		{"crashed, one is torn behind all", func(y *diary) { y.crash(plan(2, 0, 16)) }, true, true, true},
		{"crashed and written", func(y *diary) { y.crash(plan(0, -1, 0)); y.write(at(0, 2), "x") }, false, false, false},
	} {
		y := x.copied()
		c.deed(y)
		held(t, c.what, x.d, y.d, c.same, c.ab, c.ba)
		x.stays(t)
	}
}

// TestLastingPlaysNoPart: nor does the order in which pages were written.
func TestLastingPlaysNoPart(t *testing.T) {
	there := made(t, small, "abc", places(small)...)
	back := places(small)
	slices.Reverse(back)
	other := made(t, small, "abc", back...)
	held(t, "another order", there, other, true, true, true)
	other.Sync()
	held(t, "lasting", there, other, true, true, true)
}

// TestGreatest: the greatest device, all of whose pages are used, and one page of it that is other.
func TestGreatest(t *testing.T) {
	s := shape(16, 64, 256)
	x := newDiary(t, s)
	x.fill(t, places(s)...)
	held(t, "a copy", x.d, x.d.Copy(), true, true, true)
	p := plan(all, 63, 100)
	c := crash.After(x.d, p)
	pagesAre(t, c, x.after(p))
	pagesTold(t, c, places(s)[:64])
	held(t, "crashed", c, x.d, false, true, false)
	x.sync()
	held(t, "synced", crash.After(x.d, p), x.d, true, true, true)
	y := x.copied()
	y.erase(15)
	held(t, "erased", y.d, x.d, false, true, false)
	for page := range 64 {
		b := []byte(x.pages[at(15, page)])
		if page == 63 {
			b[255] ^= 1
		}
		y.mustWrite(t, at(15, page), string(b))
	}
	held(t, "the last byte", y.d, x.d, false, false, false)
}

// P1: devices that nobody made.

func TestNobodyMade(t *testing.T) {
	var value flash.Device
	wrong, _ := flash.New(shape(17, 1, 16))
	nobody := []*flash.Device{nil, {}, &value, wrong, crash.After(nil, plan(all, -1, 0))}
	for _, d := range nobody {
		for _, n := range edges() {
			for _, keep := range []uint64{0, 1, all} {
				if c := crash.After(d, plan(keep, n, n)); c != nil {
					t.Fatalf("After: %v", c)
				}
			}
		}
		if l := crash.Pages(d); len(l) != 0 {
			t.Fatalf("Pages: %v", l)
		}
		// The same Shape, and the same pages: none.
		for _, other := range nobody {
			if !crash.Same(d, other) || !crash.Within(d, other) {
				t.Fatalf("two that nobody made: Same %v, Within %v", crash.Same(d, other), crash.Within(d, other))
			}
		}
		for _, b := range []*flash.Device{made(t, shape(1, 1, 16), ""), made(t, small, ""), made(t, small, "abc", places(small)...)} {
			if crash.Same(d, b) || crash.Same(b, d) || crash.Within(d, b) || crash.Within(b, d) {
				t.Fatal("one that nobody made is as one that somebody made")
			}
		}
	}
	if value.Shape() != (api.Shape{}) || value.Write(0, 0, nil) != api.ErrNil {
		t.Fatal("a call made something of a device that nobody made")
	}
}

// P12.4.

// deeds are what may be done to a device of that shape: each page written, each segment erased, synced, and crashed by some plans.
func deeds(s api.Shape) []func(*diary) {
	var l []func(*diary)
	for _, a := range places(s) {
		l = append(l, func(x *diary) { x.write(a, x.fresh(x.writes*5%(s.Bytes+1))) })
	}
	for seg := range s.Segments {
		l = append(l, func(x *diary) { x.erase(seg) })
	}
	for _, p := range []api.Plan{plan(0, -1, 0), plan(0b10, 0, 3), plan(0b101, 1, 16), plan(all, -1, 0)} {
		l = append(l, func(x *diary) { x.crash(p) })
	}
	return append(l, (*diary).sync)
}

// crashes holds the promise for a device and a plan: what is left is Within what there was, page by page, too, and each page that was lasting has the same bytes.
func (x *diary) crashes(t *testing.T, p api.Plan) {
	t.Helper()
	c := crash.After(x.d, p)
	got := pagesOf(c)
	if !crash.Within(c, x.d) || !withinOf(got, x.pages) {
		t.Fatalf("%v of %x left %x", p, x.pages, got)
	}
	for a, b := range x.pages {
		if now, used := got[a]; !slices.Contains(x.loose, a) && (!used || now != b) {
			t.Fatalf("%v: %q was lasting at %v; now %q, used %v", p, b, a, now, used)
		}
	}
	if len(x.loose) == 0 && !crash.Same(c, x.d) {
		t.Fatalf("%v: all was lasting, but %x became %x", p, x.pages, got)
	}
}

// eachPlan holds the promise for each plan of n pages, at some cuts.
func (x *diary) eachPlan(t *testing.T, n int) {
	t.Helper()
	for p := range crash.All(n) {
		x.crashes(t, p)
	}
	for _, cut := range []int{0, 1, 7, 16} {
		for p := range crash.Torn(n, cut) {
			x.crashes(t, p)
		}
	}
}

// TestRowsOfDeeds: each row of up to four deeds, and behind it each plan of as many pages as aren't lasting.
func TestRowsOfDeeds(t *testing.T) {
	s := shape(2, 2, 16)
	l := deeds(s)
	var further func(x *diary, more int)
	further = func(x *diary, more int) {
		x.eachPlan(t, len(x.loose))
		if more == 0 {
			return
		}
		for _, deed := range l {
			y := x.copied()
			deed(y)
			further(y, more-1)
		}
	}
	further(newDiary(t, s), 4)
}

// TestOddPlans: plans that All and Torn don't tell, of pages some of which are lasting.
func TestOddPlans(t *testing.T) {
	x := newDiary(t, shape(3, 40, 20))
	l := places(x.d.Shape())
	x.fill(t, l[100:]...)
	x.sync()
	x.fill(t, l[:100]...)
	for _, keep := range []uint64{0, all, 1, 1 << 63, 0xF0F0F0F0F0F0F0F0} {
		for _, torn := range append(edges(), 99, 100) {
			for _, cut := range []int{math.MinInt, -1, 0, 1, 19, 20, 21, math.MaxInt} {
				x.crashes(t, plan(keep, torn, cut))
			}
		}
	}
	x.stays(t)
}

// some is a row of numbers below most that looks like chance, and is the same each time.
func some(seed uint64) func(most int) int {
	return func(most int) int {
		seed = seed*6364136223846793005 + 1442695040888963407
		return int(seed>>33) % most
	}
}

// TestLongRows: long rows of deeds, of devices of some shapes.
func TestLongRows(t *testing.T) {
	for i, s := range []api.Shape{shape(1, 1, 16), shape(1, 5, 17), shape(3, 3, 16), shape(4, 64, 16), shape(16, 2, 40)} {
		next := some(uint64(i))
		x, l := newDiary(t, s), places(s)
		for k := range 1500 {
			switch n := next(100); {
			case n < 3:
				x.sync()
			case n < 6:
				x.erase(next(s.Segments))
			case n < 8:
				x.crash(plan(uint64(next(1<<30))<<20, next(70)-2, next(s.Bytes+4)-2))
			default:
				x.write(l[next(len(l))], x.fresh(next(s.Bytes+1)))
			}
			x.crashes(t, plan(uint64(next(1<<30))<<34|uint64(next(1<<30)), next(12)-2, next(s.Bytes+4)-2))
			if k%100 == 99 {
				x.eachPlan(t, min(len(x.loose), 4))
				x.stays(t)
			}
		}
	}
}
