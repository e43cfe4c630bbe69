package admit_test

import (
	"fmt"
	"math"
	"math/big"
	"slices"
	"testing"

	"spence/admit"
)

// objects is how many objects there may be, term behind how many Notes that count all counts are halved: told by hand.
const (
	objects = 16
	term    = 32
)

// dice are numbers without a short rule in them, the same each time.
type dice uint64

func (d *dice) roll(n int) int {
	x := uint64(*d)
	x ^= x << 13
	x ^= x >> 7
	x ^= x << 17
	*d = dice(x)
	return int((x >> 11) % uint64(n))
}

// never are objects that may not be.
func never() []int {
	return []int{-1, -2, -15, -16, -17, -32, 16, 17, 31, 32, 33, 48, 64, 255, 256, 1 << 16, 1 << 32, 1<<32 + 1, -1 << 32, 1 << 62, math.MaxInt - 1, math.MaxInt, math.MaxInt - 15, math.MinInt, math.MinInt + 1, math.MinInt + 16}
}

// asked are the objects of which a Door is asked: all that may be, and others.
func asked() []int {
	out := never()
	for object := -20; object < 40; object++ {
		out = append(out, object)
	}
	return out
}

// times is that object, n times.
func times(n, object int) []int { return slices.Repeat([]int{object}, n) }

// others are n objects beside 0 to 3, each as seldom as can be.
func others(n int) []int {
	var out []int
	for i := range n {
		out = append(out, 4+i%(objects-4))
	}
	return out
}

// noted is a Door with these Notes, one behind the other.
func noted(row ...int) admit.Door { return noting(admit.New(), row...) }

func noting(d admit.Door, row ...int) admit.Door {
	for _, object := range row {
		d = d.Note(object)
	}
	return d
}

// counting are those of a row that count.
func counting(row []int) []int {
	return slices.DeleteFunc(slices.Clone(row), func(object int) bool { return object < 0 || object >= objects })
}

// paper is an independent telling of P26.1. It keeps no counts and halves nothing: of the whole row a Note is worth 1, and half as much with each 32nd one behind it or it itself; what an object is Seen is what its Notes are worth together, rounded down (the rest is lost at the next halving just as it would be kept: half of what was rounded down, rounded down, is what the whole would be).
type paper struct {
	row []int
}

func (p paper) count() int { return len(p.row) }

func (p paper) seen(object int) int {
	halvings := len(p.row) / term
	worth := new(big.Int)
	for i, o := range p.row {
		if o == object {
			// In parts of which one is 1 halved by all halvings.
			worth.Add(worth, new(big.Int).Lsh(big.NewInt(1), uint(i/term)))
		}
	}
	return int(worth.Rsh(worth, uint(halvings)).Int64())
}

// fault is what one of a Door's calls tells otherwise than the paper of its row does; else "".
func fault(d admit.Door, row []int) string {
	p := paper{counting(row)}
	if got := d.Count(); got != p.count() {
		return fmt.Sprintf("Count %d, not %d", got, p.count())
	}
	for object := -1; object <= objects; object++ {
		want := p.seen(object)
		if got := d.Seen(object); got != want {
			return fmt.Sprintf("Seen(%d) %d, not %d", object, got, want)
		}
		if got := admit.Admit(d, object, 1, 1); got != (want >= 2) {
			return fmt.Sprintf("Admit of %d that is Seen %d: %v", object, want, got)
		}
	}
	return ""
}

// play are these Notes, held against the paper at each place.
func play(t *testing.T, row ...int) admit.Door {
	t.Helper()
	d := admit.New()
	for i, object := range row {
		n := d.Note(object)
		if f := fault(n, row[:i+1]); f != "" {
			t.Fatalf("%v: %s", row[:i+1], f)
		}
		if f := fault(d, row[:i]); f != "" {
			t.Fatalf("%v behind a Note of %d: %s", row[:i], object, f)
		}
		d = n
	}
	return d
}

// tells: what a Door tells, by hand: how many counted, and who is Seen how often; all others never.
func tells(t *testing.T, how string, d admit.Door, count int, seen map[int]int) {
	t.Helper()
	if got := d.Count(); got != count {
		t.Fatalf("%s: Count %d, not %d", how, got, count)
	}
	for _, object := range asked() {
		if got := d.Seen(object); got != seen[object] {
			t.Fatalf("%s: Seen(%d) %d, not %d", how, object, got, seen[object])
		}
	}
}

// nobodys are Doors that nobody made.
func nobodys() []admit.Door {
	var door admit.Door
	return []admit.Door{door, {}, *new(admit.Door), make([]admit.Door, 1)[0], map[int]admit.Door{}[0]}
}

func TestNew(t *testing.T) {
	tells(t, "New", admit.New(), 0, nil)
	for i, d := range nobodys() {
		tells(t, fmt.Sprintf("that nobody made, %d", i), d, 0, nil)
		if d != admit.New() {
			t.Fatalf("that nobody made, %d: not New", i)
		}
	}
}

func TestNobodysTellsAsNew(t *testing.T) {
	roll := dice(26)
	for i, nobody := range nobodys() {
		made := admit.New()
		for at := range 200 {
			object := roll.roll(objects+4) - 2
			nobody, made = nobody.Note(object), made.Note(object)
			if nobody != made || nobody.Count() != made.Count() {
				t.Fatalf("%d, Note %d: Count %d, %d", i, at, nobody.Count(), made.Count())
			}
			for _, object := range asked() {
				if a, b := nobody.Seen(object), made.Seen(object); a != b {
					t.Fatalf("%d, Note %d: Seen(%d) %d, %d", i, at, object, a, b)
				}
				if a, b := admit.Admit(nobody, object, 0, 0), admit.Admit(made, object, 0, 0); a != b {
					t.Fatalf("%d, Note %d: Admit of %d %v, %v", i, at, object, a, b)
				}
			}
		}
	}
}

func TestNoteOfEach(t *testing.T) {
	for object := range objects {
		how := fmt.Sprint("Note of ", object)
		d := admit.New().Note(object)
		tells(t, how, d, 1, map[int]int{object: 1})
		d = d.Note(object)
		tells(t, how+", twice", d, 2, map[int]int{object: 2})
		other := (object + 1) % objects
		d = d.Note(other)
		tells(t, how+", and of the next", d, 3, map[int]int{object: 2, other: 1})
	}
}

func TestNoteOfNobody(t *testing.T) {
	two := noted(0, 15, 15)
	full := noted(others(31)...)
	for _, object := range never() {
		how := fmt.Sprint("Note of ", object)
		tells(t, how, admit.New().Note(object), 0, nil)
		tells(t, how+" behind others", two.Note(object), 3, map[int]int{0: 1, 15: 2})
		for i, d := range []admit.Door{admit.New(), two, full} {
			if d.Note(object) != d {
				t.Fatalf("%s: door %d has changed", how, i)
			}
		}
		// It is not the 32nd one.
		tells(t, how+", and 0", full.Note(object).Note(object).Note(0), 32, map[int]int{4: 1, 5: 1, 6: 1, 7: 1, 8: 1, 9: 1, 10: 1, 11: 1, 12: 1, 13: 1, 14: 1, 15: 1})
	}
}

func TestAboutTheFirstHalving(t *testing.T) {
	row := slices.Concat(times(20, 1), times(7, 2), times(3, 3), times(1, 15))
	d := noted(row...)
	tells(t, "31", d, 31, map[int]int{1: 20, 2: 7, 3: 3, 15: 1})
	d = d.Note(0)
	tells(t, "32", d, 32, map[int]int{1: 10, 2: 3, 3: 1})
	d = d.Note(0)
	tells(t, "33", d, 33, map[int]int{0: 1, 1: 10, 2: 3, 3: 1})
	d = d.Note(2)
	tells(t, "34", d, 34, map[int]int{0: 1, 1: 10, 2: 4, 3: 1})
	d = noting(d, times(29, 0)...)
	tells(t, "63", d, 63, map[int]int{0: 30, 1: 10, 2: 4, 3: 1})
	d = d.Note(3)
	tells(t, "64", d, 64, map[int]int{0: 15, 1: 5, 2: 2, 3: 1})
	d = d.Note(3)
	tells(t, "65", d, 65, map[int]int{0: 15, 1: 5, 2: 2, 3: 2})
	d = noting(d, times(30, 14)...)
	tells(t, "95", d, 95, map[int]int{0: 15, 1: 5, 2: 2, 3: 2, 14: 30})
	d = d.Note(14)
	tells(t, "96", d, 96, map[int]int{0: 7, 1: 2, 2: 1, 3: 1, 14: 15})
	d = noting(d, times(32, 13)...)
	tells(t, "128", d, 128, map[int]int{0: 3, 1: 1, 13: 16, 14: 7})
}

func TestTheNoteThatHalves(t *testing.T) {
	// It counts ahead of the halving: of one that was noted once ahead of it there is one left, of one that wasn't, none.
	for object := range objects {
		other := (object + 5) % objects
		how := fmt.Sprint("the 32nd Note, of ", object)
		d := noted(times(31, other)...)
		tells(t, how, d.Note(object), 32, map[int]int{other: 15})
		tells(t, how+", behind one of it", noted(append(times(30, other), object, object)...), 32, map[int]int{other: 15, object: 1})
		tells(t, how+", behind two of it", noted(append(times(29, other), object, object, object)...), 32, map[int]int{other: 14, object: 1})
		tells(t, how+", the others' own", d.Note(other), 32, map[int]int{other: 16})
	}
}

func TestOneAlone(t *testing.T) {
	// Behind each halving, told by hand: with 32 more each time, halved.
	want := []int{16, 24, 28, 30, 31, 31, 31}
	for object := range objects {
		d := admit.New()
		for i, left := range want {
			ahead := d.Seen(object)
			for n := 1; n < term; n++ {
				d = d.Note(object)
				tells(t, fmt.Sprint("Notes of ", object), d, i*term+n, map[int]int{object: ahead + n})
			}
			d = d.Note(object)
			tells(t, fmt.Sprint("Notes of ", object), d, (i+1)*term, map[int]int{object: left})
		}
	}
}

func TestWhoIsntNotedAnyMoreGoesOut(t *testing.T) {
	d := noted(times(32, 7)...)
	tells(t, "7 alone", d, 32, map[int]int{7: 16})
	two := []int{16, 24, 28, 30, 31, 31}
	for i, left := range []int{8, 4, 2, 1, 0, 0} {
		d = noting(d, times(32, 2)...)
		tells(t, fmt.Sprint("2 alone, ", i), d, 64+32*i, map[int]int{7: left, 2: two[i]})
	}
}

func TestEachCountWhereItIsHalved(t *testing.T) {
	// Each count from 0 to 32, and each one behind it in the second term; whoever the last Note is of.
	for first := range term + 1 {
		for second := range term + 1 {
			for _, last := range []bool{false, true} {
				ahead := order(first, last)
				behind := order(second, last)
				d := noted(ahead...)
				if got, want := d.Seen(1), first/2; got != want || d.Seen(2) != (term-first)/2 || d.Count() != term {
					t.Fatalf("%d of 32: %d, not %d", first, got, want)
				}
				d = noting(d, behind...)
				if got, want := d.Seen(1), (first/2+second)/2; got != want || d.Count() != 2*term {
					t.Fatalf("%d and %d of 32: %d, not %d", first, second, got, want)
				}
			}
		}
	}
}

// order are 32 Notes, n of them of object 1, last or first, the others of object 2.
func order(n int, last bool) []int {
	if last {
		return slices.Concat(times(term-n, 2), times(n, 1))
	}
	return slices.Concat(times(n, 1), times(term-n, 2))
}

func TestNotesThatDontCount(t *testing.T) {
	row := slices.Concat(times(9, 1), times(5, 2), times(1, 3), others(17), times(31, 3), times(1, 0))
	want := noted(row...)
	for _, object := range never() {
		for at := range len(row) + 1 {
			with := slices.Concat(row[:at], []int{object}, row[at:])
			if got := noted(with...); got != want {
				t.Fatalf("with a Note of %d at %d: Count %d, Seen(3) %d", object, at, got.Count(), got.Seen(3))
			}
		}
	}
	var all []int
	for i, object := range row {
		all = append(all, never()[i%len(never())], object)
	}
	all = append(all, never()...)
	if got := play(t, all...); got != want {
		t.Fatalf("with one between each two: Count %d, Seen(3) %d", got.Count(), got.Seen(3))
	}
	tells(t, "without any that counts", noted(slices.Repeat(never(), 10)...), 0, nil)
}

// TestRows has all rows of five Notes of a few objects, behind rows of each length about the first halvings.
func TestRows(t *testing.T) {
	few := []int{0, 1, 15, -1, 16}
	for _, ahead := range []int{0, 27, 28, 29, 30, 31, 32, 59, 60, 61, 62, 63} {
		first := slices.Concat(times(min(ahead, 1), 0), times(min(max(ahead-1, 0), 2), 1), others(max(ahead-3, 0)))
		d := play(t, first...)
		var on func(d admit.Door, row []int, left int)
		on = func(d admit.Door, row []int, left int) {
			if f := fault(d, row); f != "" {
				t.Fatalf("%v: %s", row, f)
			}
			if left == 0 {
				return
			}
			for _, object := range few {
				on(d.Note(object), append(slices.Clip(row), object), left-1)
			}
			if f := fault(d, row); f != "" {
				t.Fatalf("%v, behind the Notes that were made of it: %s", row, f)
			}
		}
		on(d, first, 5)
	}
}

// TestPlays are long rows, in which few objects or many are noted, now and then one that may not be.
func TestPlays(t *testing.T) {
	for seed := range 60 {
		roll := dice(seed*7919 + 1)
		many := 1 + roll.roll(objects)
		var row []int
		for range 200 + roll.roll(200) {
			switch roll.roll(8) {
			case 0:
				row = append(row, never()[roll.roll(len(never()))])
			case 1:
				row = append(row, roll.roll(objects))
			default:
				row = append(row, objects-1-roll.roll(many))
			}
		}
		play(t, row...)
	}
}

func TestVeryLong(t *testing.T) {
	d, counts := admit.New(), map[int]int{}
	roll := dice(4)
	for n := 1; n <= 100_000; n++ {
		object := roll.roll(roll.roll(objects) + 1)
		d = d.Note(object)
		counts[object]++
		if n%term == 0 {
			for object, c := range counts {
				counts[object] = c >> 1
			}
		}
		if d.Count() != n || d.Seen(object) != counts[object] {
			t.Fatalf("Note %d: Count %d, Seen(%d) %d, not %d", n, d.Count(), object, d.Seen(object), counts[object])
		}
	}
	tells(t, "100,000", d, 100_000, counts)
}

// TestForks: Doors are made of Doors made earlier, whatever was made of them since, and all are asked again at the end.
func TestForks(t *testing.T) {
	type fork struct {
		door admit.Door
		row  []int
	}
	for seed := range 6 {
		roll := dice(seed + 77)
		all := []fork{{admit.New(), nil}}
		for range 400 {
			// Of the last ones oftener, so that rows grow long.
			from := all[max(0, len(all)-1-roll.roll(1+roll.roll(20)))]
			object := roll.roll(6) - 1
			all = append(all, fork{from.door.Note(object), append(slices.Clip(from.row), object)})
		}
		for _, f := range all {
			if fail := fault(f.door, f.row); fail != "" {
				t.Fatalf("seed %d, %v: %s", seed, f.row, fail)
			}
		}
	}
}

// edges are lengths and mosts.
func edges() []int {
	return []int{math.MinInt, math.MinInt + 1, -1 << 62, -1 << 32, -4096, -2, -1, 0, 1, 2, 5, 31, 32, 4095, 4096, 4097, 1 << 32, 1<<62 - 1, 1 << 62, math.MaxInt - 1, math.MaxInt}
}

func TestAdmitOfLengths(t *testing.T) {
	twice := noted(3, 3)
	for _, length := range edges() {
		for _, most := range edges() {
			want := !(length < 0) && !(length > most)
			if got := admit.Admit(twice, 3, length, most); got != want {
				t.Fatalf("length %d of at most %d: %v", length, most, got)
			}
			for _, object := range asked() {
				if object != 3 && admit.Admit(twice, object, length, most) {
					t.Fatalf("Admit of %d, length %d of at most %d", object, length, most)
				}
			}
		}
	}
}

func TestAdmitByHand(t *testing.T) {
	d := noted(1, 1, 2)
	for _, x := range []struct {
		object, length, most int
		want                 bool
	}{
		{1, 0, 0, true}, {1, 0, 9, true}, {1, 5, 5, true}, {1, 4, 5, true}, {1, 6, 5, false}, {1, -1, 5, false}, {1, 1, 0, false},
		{1, -1, -1, false}, {1, 0, -1, false}, {1, -2, -1, false}, {1, math.MinInt, math.MaxInt, false}, {1, math.MaxInt, math.MaxInt, true},
		{1, math.MaxInt, math.MaxInt - 1, false}, {1, math.MinInt, math.MinInt, false}, {1, 4097, 4097, true}, {1, 1 << 32, 1<<32 - 1, false},
		{2, 0, 0, false}, {2, 5, 5, false}, {0, 5, 5, false}, {3, 5, 5, false}, {15, 5, 5, false},
		{-1, 5, 5, false}, {16, 5, 5, false}, {17, 5, 5, false}, {-15, 5, 5, false}, {math.MinInt, 5, 5, false}, {math.MaxInt, 5, 5, false}, {1<<32 + 1, 5, 5, false},
	} {
		if got := admit.Admit(d, x.object, x.length, x.most); got != x.want {
			t.Fatalf("%+v: %v", x, got)
		}
	}
}

func TestAdmitOfEachCount(t *testing.T) {
	for object := range objects {
		d := admit.New()
		for n := range term {
			if got := admit.Admit(d, object, 1, 4); got != (n >= 2) {
				t.Fatalf("%d, noted %d times: %v", object, n, got)
			}
			d = d.Note(object)
		}
		if !admit.Admit(d, object, 1, 4) {
			t.Fatalf("%d, noted 32 times: false", object)
		}
	}
}

func TestAdmitAboutHalvings(t *testing.T) {
	// How often 3 was noted in 31 Notes, and whether it is let in behind the 32nd, that isn't of it.
	for n, want := range []bool{false, false, false, false, true, true, true} {
		d := noted(append(times(n, 3), times(31-n, 9)...)...)
		if got := admit.Admit(d, 3, 1, 1); got != (n >= 2) {
			t.Fatalf("%d ahead of the halving: %v", n, got)
		}
		behind := d.Note(9)
		if got := admit.Admit(behind, 3, 1, 1); got != want {
			t.Fatalf("%d behind the halving: %v", n, got)
		}
		if got := admit.Admit(behind.Note(3), 3, 1, 1); got != (n >= 2) {
			t.Fatalf("%d behind the halving, and once more: %v", n, got)
		}
		if got := admit.Admit(d, 3, 1, 1); got != (n >= 2) {
			t.Fatalf("%d, asked again: %v", n, got)
		}
	}
}

func TestAdmitOfNobodys(t *testing.T) {
	for i, d := range append(nobodys(), admit.New()) {
		for _, object := range asked() {
			for _, length := range edges() {
				for _, most := range edges() {
					if admit.Admit(d, object, length, most) {
						t.Fatalf("door %d: Admit(%d, %d, %d)", i, object, length, most)
					}
				}
			}
		}
	}
}

// TestAdmitChangesNothing: what is asked of a Door leaves it as it was.
func TestAdmitChangesNothing(t *testing.T) {
	d := noted(1, 1, 2, 15, 15, 15)
	for _, object := range asked() {
		admit.Admit(d, object, 1, 1)
		d.Seen(object)
		d.Count()
		d.Note(object)
	}
	tells(t, "asked", d, 6, map[int]int{1: 2, 2: 1, 15: 3})
	if d != noted(1, 1, 2, 15, 15, 15) {
		t.Fatal("another Door than the one of the same Notes")
	}
}
