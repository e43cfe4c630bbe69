package ifrange_test

import (
	"math"
	"math/bits"
	"slices"
	"strconv"
	"strings"
	"testing"

	"spence/api"
	"spence/ifrange"
)

const (
	near = "4611686018427387902" // one below MaxNum
	most = "4611686018427387903" // MaxNum
	over = "4611686018427387904" // one above it
	far  = "99999999999999999999"
)

// at is a span from one place to another.
func at(from, to int) api.Span { return api.Span{From: from, To: to} }

// list is spans as a list.
func list(l ...api.Span) []api.Span { return l }

// choice is what Choose may answer, or what may be given instead of it.
func choice(status int, l ...api.Span) ifrange.Choice {
	return ifrange.Choice{Status: status, Spans: l}
}

// quoted is a strong validator as it stands in a field.
func quoted(tag string) string { return "\"" + tag + "\"" }

// lengths are how many bytes an object has, also as many as none has.
func lengths() []int {
	return []int{math.MinInt, -api.MaxNum, -100, -1, 0, 1, 2, 7, 100, 1 << 31, api.MaxNum - 1, api.MaxNum, api.MaxNum + 1, math.MaxInt}
}

// some is whether an object of n bytes has any that can be told.
func some(n int) bool { return n > 0 && n <= api.MaxNum }

// chosen holds Choose against what it must be.
func chosen(t *testing.T, header, cond, tag string, n int, want ifrange.Choice) {
	t.Helper()
	got := ifrange.Choose(header, cond, tag, n)
	if got.Status != want.Status || !slices.Equal(got.Spans, want.Spans) {
		t.Fatalf("Choose(%.200q, %.200q, %.200q, %d): %v; want %v", header, cond, tag, n, got, want)
	}
}

// asks holds Choose without a condition.
func asks(t *testing.T, header string, n, status int, l ...api.Span) {
	t.Helper()
	chosen(t, header, "", "v", n, choice(status, l...))
}

// P9.1.

func TestChoose(t *testing.T) {
	for _, c := range []struct {
		header string
		want   []api.Span
	}{
		{"bytes=0-4", list(at(0, 5))},
		{"bytes=0-0", list(at(0, 1))},
		{"bytes=0-", list(at(0, 100))},
		{"bytes=0-99", list(at(0, 100))},
		{"bytes=0-100", list(at(0, 100))},
		{"bytes=90-200", list(at(90, 100))},
		{"bytes=0-" + most, list(at(0, 100))},
		{"bytes=7-", list(at(7, 100))},
		{"bytes=-1", list(at(99, 100))},
		{"bytes=-30", list(at(70, 100))},
		// the last byte, as the first one of those that are asked for
		{"bytes=99-", list(at(99, 100))},
		{"bytes=99-99", list(at(99, 100))},
		{"bytes=99-100", list(at(99, 100))},
		{"bytes=99-" + most, list(at(99, 100))},
		// the last bytes: as many as there are, one fewer, and more
		{"bytes=-99", list(at(1, 100))},
		{"bytes=-100", list(at(0, 100))},
		{"bytes=-101", list(at(0, 100))},
		{"bytes=-500", list(at(0, 100))},
		{"bytes=-" + most, list(at(0, 100))},
		// What isn't there is left out, wherever it stands.
		{"bytes=100-,0-4", list(at(0, 5))},
		{"bytes=0-4,-0", list(at(0, 5))},
		{"bytes=8-9,100-200,-0,0-4," + most + "-", list(at(8, 10), at(0, 5))},
		// the field in other forms
		{"BYTES=0-4", list(at(0, 5))},
		{"bYtEs=0-4,8-9", list(at(0, 5), at(8, 10))},
		{" \tbytes=0-4 , 8-9\t ", list(at(0, 5), at(8, 10))},
		{"bytes=,,0-4,,8-9,", list(at(0, 5), at(8, 10))},
		{"bytes=000-0004,-00", list(at(0, 5))},
	} {
		asks(t, c.header, 100, 206, c.want...)
	}
}

// TestChooseInOrder: as long as no two have a byte in common, they stay as they were asked for.
func TestChooseInOrder(t *testing.T) {
	for _, c := range []struct {
		header string
		want   []api.Span
	}{
		{"bytes=0-4,10-14", list(at(0, 5), at(10, 15))},
		{"bytes=10-14,0-4", list(at(10, 15), at(0, 5))},
		{"bytes=50-59,30-39,10-19", list(at(50, 60), at(30, 40), at(10, 20))},
		{"bytes=30-39,50-59,10-19", list(at(30, 40), at(50, 60), at(10, 20))},
		{"bytes=-5,0-4", list(at(95, 100), at(0, 5))},
		{"bytes=90-,0-4,-0", list(at(90, 100), at(0, 5))},
		// Those that only touch have none in common, in whichever order.
		{"bytes=0-4,5-9", list(at(0, 5), at(5, 10))},
		{"bytes=5-9,0-4", list(at(5, 10), at(0, 5))},
		{"bytes=0-0,1-1,2-2", list(at(0, 1), at(1, 2), at(2, 3))},
		{"bytes=2-2,1-1,0-0", list(at(2, 3), at(1, 2), at(0, 1))},
		{"bytes=5-9,0-4,10-14", list(at(5, 10), at(0, 5), at(10, 15))},
		{"bytes=-50,0-49", list(at(50, 100), at(0, 50))},
		// with one byte between
		{"bytes=0-4,6-9", list(at(0, 5), at(6, 10))},
		{"bytes=6-9,0-4", list(at(6, 10), at(0, 5))},
	} {
		asks(t, c.header, 100, 206, c.want...)
	}
}

// TestChooseMerged: as soon as two have a byte in common, all are made one and put in order.
func TestChooseMerged(t *testing.T) {
	for _, c := range []struct {
		header string
		want   []api.Span
	}{
		{"bytes=0-4,2-9", list(at(0, 10))},
		{"bytes=2-9,0-4", list(at(0, 10))},
		// just one byte
		{"bytes=0-5,5-9", list(at(0, 10))},
		{"bytes=5-9,0-5", list(at(0, 10))},
		{"bytes=0-50,-50", list(at(0, 100))},
		{"bytes=-1,99-", list(at(99, 100))},
		// one within another one
		{"bytes=0-9,3-5", list(at(0, 10))},
		{"bytes=3-5,0-9", list(at(0, 10))},
		{"bytes=0-9,0-5", list(at(0, 10))},
		{"bytes=5-9,0-9", list(at(0, 10))},
		{"bytes=0-,7-8", list(at(0, 100))},
		{"bytes=-500,0-0", list(at(0, 100))},
		// the same one twice
		{"bytes=3-5,3-5", list(at(3, 6))},
		{"bytes=0-0,0-0", list(at(0, 1))},
		{"bytes=-5,95-99", list(at(95, 100))},
		{"bytes=95-,-5,95-200", list(at(95, 100))},
		{"bytes=0-,-100,-" + most, list(at(0, 100))},
		// the first and the last of many, two in the middle, the last two
		{"bytes=50-59,30-39,10-19,59-62", list(at(10, 20), at(30, 40), at(50, 63))},
		{"bytes=50-59,30-39,39-41,10-19", list(at(10, 20), at(30, 42), at(50, 60))},
		{"bytes=50-59,30-39,10-19,19-19", list(at(10, 20), at(30, 40), at(50, 60))},
		{"bytes=50-59,50-50,30-39,10-19", list(at(10, 20), at(30, 40), at(50, 60))},
		// Then those that only touch are made one, too; those with a byte between aren't.
		{"bytes=20-29,5-9,0-4,29-30", list(at(0, 10), at(20, 31))},
		{"bytes=20-29,6-9,0-4,29-30", list(at(0, 5), at(6, 10), at(20, 31))},
		{"bytes=0-4,4-4,6-9", list(at(0, 5), at(6, 10))},
		// All hang together, one by one.
		{"bytes=6-8,0-2,4-6,2-4", list(at(0, 9))},
		// One that isn't there has nothing in common with another one.
		{"bytes=10-14,100-,100-,0-4", list(at(10, 15), at(0, 5))},
		{"bytes=10-14,-0,-0,0-4", list(at(10, 15), at(0, 5))},
	} {
		asks(t, c.header, 100, 206, c.want...)
	}
}

// TestChooseBeyond: something is asked for, but nothing of it is there.
func TestChooseBeyond(t *testing.T) {
	for _, header := range []string{"bytes=100-", "bytes=100-100", "bytes=100-200", "bytes=101-", "bytes=-0", "bytes=" + most + "-", "bytes=" + most + "-" + most, "bytes=100-,-0,200-300", "bytes=-0,-0"} {
		asks(t, header, 100, 416)
		chosen(t, header, quoted("v"), "v", 100, choice(416))
		chosen(t, header, " "+quoted("v")+"\t", "v", 100, choice(416))
		// With a condition that doesn't count it is as if nothing had been asked for.
		for _, cond := range []string{quoted("w"), "W/" + quoted("v"), "v", "junk", quoted("")} {
			chosen(t, header, cond, "v", 100, choice(200))
		}
	}
}

// TestChooseLengths: objects of no bytes, of fewer than none, of one, of as many as there may be, and of more.
func TestChooseLengths(t *testing.T) {
	for _, n := range []int{0, -1, -100, -api.MaxNum, math.MinInt, api.MaxNum + 1, math.MaxInt} {
		for _, header := range []string{"bytes=0-", "bytes=0-0", "bytes=0-4", "bytes=-1", "bytes=-0", "bytes=-500", "bytes=-" + most, "bytes=" + most + "-", "bytes=0-0,-1,0-"} {
			asks(t, header, n, 416)
			chosen(t, header, quoted("v"), "v", n, choice(416))
			chosen(t, header, quoted("w"), "v", n, choice(200))
		}
		asks(t, "", n, 200)
		asks(t, "bytes=", n, 200)
	}
	for _, c := range []struct {
		header string
		n      int
		want   []api.Span
	}{
		{"bytes=0-", 1, list(at(0, 1))},
		{"bytes=0-0", 1, list(at(0, 1))},
		{"bytes=0-1", 1, list(at(0, 1))},
		{"bytes=-1", 1, list(at(0, 1))},
		{"bytes=-2", 1, list(at(0, 1))},
		{"bytes=0-,-1", 1, list(at(0, 1))},
		{"bytes=1-,0-,-0", 1, list(at(0, 1))},
		{"bytes=0-", api.MaxNum, list(at(0, api.MaxNum))},
		{"bytes=0-" + near, api.MaxNum, list(at(0, api.MaxNum))},
		{"bytes=0-" + most, api.MaxNum, list(at(0, api.MaxNum))},
		{"bytes=-" + most, api.MaxNum, list(at(0, api.MaxNum))},
		{"bytes=-1", api.MaxNum, list(at(api.MaxNum-1, api.MaxNum))},
		{"bytes=" + near + "-", api.MaxNum, list(at(api.MaxNum-1, api.MaxNum))},
		{"bytes=-1,0-0", api.MaxNum, list(at(api.MaxNum-1, api.MaxNum), at(0, 1))},
		{"bytes=-" + near + ",0-0", api.MaxNum, list(at(1, api.MaxNum), at(0, 1))},
		{"bytes=-" + near + ",0-1", api.MaxNum, list(at(0, api.MaxNum))},
		{"bytes=-1," + near + "-" + most + ",0-0", api.MaxNum, list(at(0, 1), at(api.MaxNum-1, api.MaxNum))},
	} {
		asks(t, c.header, c.n, 206, c.want...)
	}
	asks(t, "bytes=1-", 1, 416)
	asks(t, "bytes=-0", 1, 416)
	asks(t, "bytes="+most+"-", api.MaxNum, 416)
	asks(t, "bytes=-0", api.MaxNum, 416)
}

// TestChooseMany: as many specs as a field may have, and one more.
func TestChooseMany(t *testing.T) {
	var specs []string
	var falling, rising []api.Span
	for i := range 16 {
		first := 300 - 20*i
		specs = append(specs, strconv.Itoa(first)+"-"+strconv.Itoa(first+9))
		falling = append(falling, at(first, first+10))
	}
	rising = slices.Clone(falling)
	slices.Reverse(rising)
	field := func(l []string) string { return "bytes=" + strings.Join(l, ",") }
	asks(t, field(specs), 1000, 206, falling...)
	asks(t, "bytes=, ,"+strings.Join(specs, ", ,,")+",,", 1000, 206, falling...)
	for _, more := range []string{"900-", "0-0", "1000-", "-0", "300-309", "x"} {
		asks(t, field(append(slices.Clone(specs), more)), 1000, 200)
		asks(t, field(append([]string{more}, specs...)), 1000, 200)
	}
	// Any two of them share a byte: the later one begins with the last byte of the earlier one.
	for i := range 16 {
		for k := range i {
			l, want := slices.Clone(specs), slices.Clone(rising)
			first := falling[k].To - 1
			l[i] = strconv.Itoa(first) + "-" + strconv.Itoa(first+1)
			want[15-k].To++
			asks(t, field(l), 1000, 206, slices.Delete(want, 15-i, 16-i)...)
			// They touch, but have none in common.
			l[i] = strconv.Itoa(first+1) + "-" + strconv.Itoa(first+1)
			apart := slices.Clone(falling)
			apart[i] = at(first+1, first+2)
			asks(t, field(l), 1000, 206, apart...)
		}
	}
	asks(t, field(slices.Repeat([]string{"5-9"}, 16)), 1000, 206, at(5, 10))
	asks(t, field(slices.Repeat([]string{"1000-"}, 16)), 1000, 416)
	asks(t, field(slices.Repeat([]string{"1000-"}, 17)), 1000, 200)
	asks(t, field(append(slices.Repeat([]string{"-0"}, 15), "7-7")), 1000, 206, at(7, 8))
}

// unasked are fields that ask for nothing: there is none, or it isn't of the grammar.
func unasked() []string {
	l := []string{
		"", " ", "\t", " \t \t", "\n", "\x00", "=", "bytes", "bytes=", "bytes= ", "bytes=,", "bytes=, ,", "bytes 0-4", "bytes:0-4", "bytes==0-4", "bytes =0-4", "byte=0-4", "bytess=0-4", "bytes\x00=0-4",
		"items=0-4", "octets=0-4", "none", "0-4", "=0-4", "\"bytes\"=0-4", "bits=0-", "Bytes0-4",
		"bytes=x", "bytes=-", "bytes=4", "bytes=--4", "bytes=0--4", "bytes=0-4-", "bytes=4-3", "bytes=1-0", "bytes=0 -4", "bytes=0- 4", "bytes=0-4;5-9", "bytes=0-4 5-9", "bytes=+0-4", "bytes=0x0-4", "bytes=0-4\n", "bytes=0-4\x00", "\nbytes=0-4",
		"bytes=0-4,x", "bytes=x,0-4", "bytes=0-4,-", "bytes=0-4,3-1", "bytes=3-1,0-4", "bytes=*", "bytes=0-*", "bytes=0-4/100", "bytes 0-4/100", "bytes=0.0-4", "bytes=\u0660-4",
		"bytes=0-4,items=5-9", "bytes=0-4,bytes=5-9",
	}
	for _, number := range []string{over, far, "1" + most} {
		l = append(l, "bytes="+number+"-", "bytes=-"+number, "bytes=0-"+number, "bytes="+number+"-"+number, "bytes=0-4,"+number+"-", "bytes=-"+number+",0-4", "bytes=0-4,5-"+number)
	}
	return append(l, "bytes="+strings.Repeat("0-0,", 16)+"0-0", strings.Repeat("bytes=0-4,", 1000), "bytes="+strings.Repeat("9", 10000)+"-", strings.Repeat(" ", 10000), "bytes="+strings.Repeat(",", 10000))
}

// TestChooseUnasked: all is told, whatever the condition, and however many bytes there are.
func TestChooseUnasked(t *testing.T) {
	for _, header := range unasked() {
		for _, n := range lengths() {
			for _, cond := range []string{"", " ", quoted("v"), "W/" + quoted("v"), quoted("w"), "junk"} {
				chosen(t, header, cond, "v", n, choice(200))
			}
		}
	}
}

// tags are an object's: strong ones, the longest one, and some that no validator has, as if they were weak, or aren't right.
func tags() []string {
	return []string{
		"v", "w", "V", "", "v1-0", "W/v", "*", "v,w", "v=w", "\x80\xff", "\u00e4", "!", "~", strings.Repeat("t", 40),
		"W/\"v\"", "\"v\"", "\"", "v\"", "a\"b", "a b", " v", "v ", "\t", " ", "v\x00", "v\x7f", "v\n", strings.Repeat("t", 41), strings.Repeat("t", 5000), strings.Repeat("t", 39) + " ", "W/\"\"",
	}
}

// mayBe is whether a validator may have such a tag.
func mayBe(tag string) bool {
	for i := range len(tag) {
		if c := tag[i]; c < 33 || c == 34 || c == 127 {
			return false
		}
	}
	return len(tag) <= 40
}

// counts is an independent reading of whether the ranges count.
func counts(cond, tag string) bool {
	cond = strings.Trim(cond, " \t")
	return cond == "" || mayBe(tag) && cond == quoted(tag)
}

// conditions are what may stand in If-Range.
func conditions() []string {
	l := []string{"", " ", "\t", " \t \t ", "\n", "\r\n", "\x00", "\u00a0", "*", "v", "v\"", "\"v", "'v'", "w/\"v\"", "W\"v\"", "W/v", "W/ \"v\"", " W/\"v\" ", "\"v\", \"w\"", "\"v\",\"v\"", "\"v\"\"v\"", "\"v\" \"v\"", "\" v\"", "\"v \"", "\"\"v\"\"", "Sat, 29 Oct 1994 19:43:31 GMT", "\"Sat, 29 Oct 1994 19:43:31 GMT\"", "bytes=0-4", strings.Repeat("\"", 5000)}
	for _, tag := range tags() {
		l = append(l, tag, quoted(tag), "W/"+quoted(tag), " "+quoted(tag), quoted(tag)+"\t", "\t "+quoted(tag)+" \t", "\n"+quoted(tag), quoted(tag)+"\n", quoted(tag)+"x")
	}
	return l
}

// TestChooseConditions: each condition with each tag.
func TestChooseConditions(t *testing.T) {
	count := 0
	for _, cond := range conditions() {
		for _, tag := range tags() {
			one, two, none := choice(200), choice(200), choice(200)
			if counts(cond, tag) {
				one, two, none = choice(206, at(0, 5)), choice(206, at(5, 10), at(0, 5)), choice(416)
				count++
			}
			chosen(t, "bytes=0-4", cond, tag, 100, one)
			chosen(t, "bytes=5-9,0-4", cond, tag, 100, two)
			chosen(t, "bytes=100-", cond, tag, 100, none)
			chosen(t, "bytes=0-", cond, tag, 0, none)
			chosen(t, "", cond, tag, 100, choice(200))
			chosen(t, "bytes=x", cond, tag, 100, choice(200))
		}
	}
	// At least those without a condition, and each tag that may be, with and without blanks.
	if blank, right := 4, 14; count < blank*len(tags())+4*right {
		t.Errorf("only %d count", count)
	}
}

// TestChooseCondition: the conditions that count and those that don't, written out.
func TestChooseCondition(t *testing.T) {
	for _, c := range []struct {
		cond, tag string
		status    int
	}{
		{"", "v", 206}, {" \t", "v", 206}, {"\"v\"", "v", 206}, {" \"v\"\t", "v", 206}, {"\"\"", "", 206}, {"", "", 206},
		{"\"w\"", "v", 200}, {"\"V\"", "v", 200}, {"W/\"v\"", "v", 200}, {"W/\"w\"", "v", 200}, {"v", "v", 200}, {"\"\"", "v", 200}, {"\"v\"", "", 200}, {"junk", "", 200},
		// The object's own is weak, or isn't right: only without a condition they count.
		{"", "W/\"v\"", 206}, {"W/\"v\"", "W/\"v\"", 200}, {"\"W/\"v\"\"", "W/\"v\"", 200}, {"\"v\"", "W/\"v\"", 200},
		{"", "a b", 206}, {"\"a b\"", "a b", 200}, {"a b", "a b", 200}, {"\"a\"b\"", "a\"b", 200},
		{"", strings.Repeat("t", 41), 206}, {quoted(strings.Repeat("t", 41)), strings.Repeat("t", 41), 200}, {quoted(strings.Repeat("t", 40)), strings.Repeat("t", 40), 206},
	} {
		if got := ifrange.Choose("bytes=0-4", c.cond, c.tag, 100); got.Status != c.status {
			t.Errorf("%.80q with %.80q: %v; want %d", c.cond, c.tag, got, c.status)
		}
	}
}

func TestWhole(t *testing.T) {
	for _, n := range lengths() {
		if c := ifrange.Whole(n); c.Status != 200 || len(c.Spans) != 0 {
			t.Errorf("Whole(%d): %v", n, c)
		}
	}
}

// P9.2.

// statuses are those of a Choice, and others.
func statuses() []int {
	return []int{200, 206, 416, 0, -1, -206, 1, 100, 199, 201, 204, 205, 207, 304, 404, 412, 415, 417, 502, 206 + 1<<32, 200 + 1<<32, math.MaxInt, math.MinInt}
}

// rows are lists of spans that a Choice may have, also ones that Choose never answers.
func rows() [][]api.Span {
	l := [][]api.Span{
		nil, {}, list(at(0, 5)), list(at(0, 1)), list(at(0, api.MaxNum)), list(api.Span{}), list(at(9, 3)), list(at(-1, 5)), list(at(0, math.MaxInt)), list(at(math.MinInt, math.MaxInt)),
		list(at(5, 10), at(0, 5)), list(at(0, 5), at(0, 5)), list(at(0, 9), at(3, 5)), list(at(0, 5), at(5, 10), at(20, 30)), list(at(0, 5), at(9, 3)), list(api.Span{}, api.Span{}),
		list(at(0, api.MaxNum), at(0, 1)), list(at(0, api.MaxNum-1), at(0, 1)), slices.Repeat(list(at(0, api.MaxNum)), 9), slices.Repeat(list(at(0, math.MaxInt)), 3),
	}
	return append(l, slices.Repeat(list(at(3, 7)), 16), slices.Repeat(list(at(3, 7)), 17), slices.Repeat(list(at(3, 7)), 5000))
}

// wanted holds all of P9.2 against what it must be.
func wanted(t *testing.T, c ifrange.Choice, n int, want []api.Span, many bool, count int) {
	t.Helper()
	if got := ifrange.Wants(c, n); !slices.Equal(got, want) {
		t.Fatalf("Wants(%.200v, %d): %.200v; want %.200v", c, n, got, want)
	}
	if got := ifrange.Many(c); got != many {
		t.Fatalf("Many(%.200v): %v", c, got)
	}
	if got := ifrange.Bytes(c, n); got != count {
		t.Fatalf("Bytes(%.200v, %d): %d; want %d", c, n, got, count)
	}
}

func TestWants(t *testing.T) {
	for _, c := range []struct {
		c     ifrange.Choice
		n     int
		want  []api.Span
		many  bool
		count int
	}{
		{choice(206, at(0, 5)), 100, list(at(0, 5)), false, 5},
		{choice(206, at(99, 100)), 100, list(at(99, 100)), false, 1},
		{choice(206, at(0, 100)), 100, list(at(0, 100)), false, 100},
		{choice(206, at(0, 5), at(10, 13)), 100, list(at(0, 5), at(10, 13)), true, 8},
		{choice(206, at(10, 13), at(0, 5)), 100, list(at(10, 13), at(0, 5)), true, 8},
		{choice(206, at(10, 13), at(0, 5), at(13, 20)), 100, list(at(10, 13), at(0, 5), at(13, 20)), true, 15},
		{choice(206, at(0, api.MaxNum)), api.MaxNum, list(at(0, api.MaxNum)), false, api.MaxNum},
		{choice(200), 100, list(at(0, 100)), false, 100},
		{choice(200), 2, list(at(0, 2)), false, 2},
		{choice(200), 1, list(at(0, 1)), false, 1},
		{choice(200), 0, nil, false, 0},
		{choice(200), -1, nil, false, 0},
		{choice(200), math.MinInt, nil, false, 0},
		{choice(200), api.MaxNum - 1, list(at(0, api.MaxNum-1)), false, api.MaxNum - 1},
		{choice(200), api.MaxNum, list(at(0, api.MaxNum)), false, api.MaxNum},
		// All of more bytes than there may be are no span that is Right, so they have no sum.
		{choice(200), api.MaxNum + 1, list(at(0, api.MaxNum+1)), false, 0},
		{choice(200), math.MaxInt, list(at(0, math.MaxInt)), false, 0},
		{choice(416), 100, nil, false, 0},
		{choice(416), 0, nil, false, 0},
		// a 206 without any
		{choice(206), 100, nil, false, 0},
		{choice(206), 0, nil, false, 0},
		// a 200 and a 416 that have some
		{choice(200, at(3, 5)), 100, list(at(0, 100)), false, 100},
		{choice(200, at(3, 5), at(7, 9)), 100, list(at(0, 100)), false, 100},
		{choice(200, at(3, 5), at(7, 9)), 0, nil, false, 0},
		{choice(416, at(3, 5)), 100, nil, false, 0},
		{choice(416, at(3, 5), at(7, 9)), 100, nil, false, 0},
		// none of the three
		{choice(0), 100, nil, false, 0},
		{choice(0, at(3, 5), at(7, 9)), 100, nil, false, 0},
		{choice(502, at(3, 5), at(7, 9)), 100, nil, false, 0},
		// What Choose never answers is told as it is, and summed up as it is.
		{choice(206, at(0, 5), at(0, 5)), 100, list(at(0, 5), at(0, 5)), true, 10},
		{choice(206, at(0, 9), at(3, 5)), 4, list(at(0, 9), at(3, 5)), true, 11},
		{choice(206, at(0, 5), at(9, 3)), 100, list(at(0, 5), at(9, 3)), true, 5},
		{choice(206, at(-1, 5)), 100, list(at(-1, 5)), false, 0},
		{choice(206, at(50, 60)), 10, list(at(50, 60)), false, 10},
		{choice(206, at(0, api.MaxNum), at(0, 1)), 10, list(at(0, api.MaxNum), at(0, 1)), true, api.MaxNum},
		{choice(206, at(0, api.MaxNum), at(0, api.MaxNum), at(0, api.MaxNum)), 10, list(at(0, api.MaxNum), at(0, api.MaxNum), at(0, api.MaxNum)), true, api.MaxNum},
	} {
		wanted(t, c.c, c.n, c.want, c.many, c.count)
	}
}

// sum is an independent reading of how many bytes l has.
func sum(l []api.Span) int {
	n := uint64(0)
	for _, s := range l {
		if s.From >= 0 && s.From < s.To && s.To <= api.MaxNum {
			n = min(n+uint64(s.To-s.From), api.MaxNum)
		}
	}
	return int(n)
}

// TestWantsOfEach: each status with each list and each length.
func TestWantsOfEach(t *testing.T) {
	for _, status := range statuses() {
		for _, l := range rows() {
			for _, n := range lengths() {
				var want []api.Span
				switch {
				case status == 206:
					want = l
				case status == 200 && n > 0:
					want = list(at(0, n))
				}
				wanted(t, choice(status, l...), n, want, status == 206 && len(l) > 1, sum(want))
			}
		}
	}
}

// TestWantsOfChosen: what is wanted of what was chosen.
func TestWantsOfChosen(t *testing.T) {
	for _, c := range []struct {
		header string
		n      int
		want   []api.Span
		many   bool
		count  int
	}{
		{"bytes=0-4,2-9", 100, list(at(0, 10)), false, 10},
		{"bytes=5-9,0-4", 100, list(at(5, 10), at(0, 5)), true, 10},
		{"bytes=100-", 100, nil, false, 0},
		{"", 100, list(at(0, 100)), false, 100},
		{"", 0, nil, false, 0},
		{"", -5, nil, false, 0},
		{"bytes=0-", 0, nil, false, 0},
		{"bytes=x", 7, list(at(0, 7)), false, 7},
	} {
		wanted(t, ifrange.Choose(c.header, "", "v", c.n), c.n, c.want, c.many, c.count)
	}
}

// P9.3.

// small is how many bytes a small object has, at most.
const small = 5

// asked is a spec as it stands in a field, with the bytes that it means of an object of each small length, bit by bit.
type asked struct {
	text  string
	means [small + 1]uint
}

// specs are all small ones.
func specs() []asked {
	var l []asked
	add := func(text string, has func(b, n int) bool) {
		x := asked{text: text}
		for n := range small + 1 {
			for b := range n {
				if has(b, n) {
					x.means[n] |= 1 << b
				}
			}
		}
		l = append(l, x)
	}
	for first := range small + 2 {
		text := strconv.Itoa(first)
		add(text+"-", func(b, n int) bool { return first <= b })
		add("-"+text, func(b, n int) bool { return n-b <= first })
		for last := first; last < small+2; last++ {
			add(text+"-"+strconv.Itoa(last), func(b, n int) bool { return first <= b && b <= last })
		}
	}
	return l
}

// spansOf are the bytes of a set, as spans, rising, none of which touches another one.
func spansOf(set uint) []api.Span {
	var l []api.Span
	for set != 0 {
		first := bits.TrailingZeros(set)
		length := bits.TrailingZeros(^(set >> first))
		l = append(l, at(first, first+length))
		set &^= (1<<length - 1) << first
	}
	return l
}

// expected is what Choose must answer to l, of n bytes, byte by byte, and all the bytes that l means.
func expected(l []asked, n int) (ifrange.Choice, uint) {
	var inOrder []api.Span
	union, twice := uint(0), false
	for _, x := range l {
		if n <= 0 || x.means[n] == 0 {
			continue
		}
		twice = twice || union&x.means[n] != 0
		union |= x.means[n]
		inOrder = append(inOrder, spansOf(x.means[n])...)
	}
	switch {
	case union == 0:
		return choice(416), 0
	case twice:
		return choice(206, spansOf(union)...), union
	default:
		return choice(206, inOrder...), union
	}
}

// eachOnce holds that l has each byte of union once, none of them twice, and no other one.
func eachOnce(t *testing.T, header string, n int, l []api.Span, union uint) {
	t.Helper()
	var times [small]int
	for _, s := range l {
		if s.From < 0 || s.From >= s.To || s.To > n {
			t.Fatalf("%q of %d: %v isn't within", header, n, s)
		}
		for b := s.From; b < s.To; b++ {
			times[b]++
		}
	}
	for b, got := range times {
		if want := int(union >> b & 1); got != want {
			t.Fatalf("%q of %d: %v has byte %d %d times; want %d", header, n, l, b, got, want)
		}
	}
}

// holds holds the answer to l, of n bytes, against all that is promised of it.
func holds(t *testing.T, l []asked, n int) {
	t.Helper()
	var texts []string
	for _, x := range l {
		texts = append(texts, x.text)
	}
	header := "bytes=" + strings.Join(texts, ",")
	want, union := expected(l, n)
	chosen(t, header, "", "v", n, want)
	eachOnce(t, header, n, ifrange.Choose(header, quoted("v"), "v", n).Spans, union)
	wanted(t, want, n, want.Spans, len(want.Spans) > 1, bits.OnesCount(union))
}

// TestOfEach: all lists of up to three small spans, over all small objects.
func TestOfEach(t *testing.T) {
	all := specs()
	for n := -1; n <= small; n++ {
		for _, a := range all {
			holds(t, []asked{a}, n)
			for _, b := range all {
				holds(t, []asked{a, b}, n)
				for _, c := range all {
					holds(t, []asked{a, b, c}, n)
				}
			}
		}
	}
}

// long is a spec of any numbers: the text, and its first and its last byte of n. None is meant, if the last one is below the first one.
type long struct {
	text string
	ends func(n int) (int, int)
}

// longSpecs are specs with numbers around 0 and around MaxNum.
func longSpecs() []long {
	numbers := []int{0, 1, 2, 1 << 31, api.MaxNum - 2, api.MaxNum - 1, api.MaxNum}
	var l []long
	for i, first := range numbers {
		text := strconv.Itoa(first)
		l = append(l, long{text + "-", func(n int) (int, int) { return first, n - 1 }})
		l = append(l, long{"-" + text, func(n int) (int, int) { return max(n-first, 0), n - 1 }})
		for _, last := range numbers[i:] {
			l = append(l, long{text + "-" + strconv.Itoa(last), func(n int) (int, int) { return first, min(last, n-1) }})
		}
	}
	return l
}

// places are bytes at which something of longSpecs begins or ends, of any object of lengths, and those beside them.
func places() []int {
	var l []int
	for _, n := range []int{0, 1, 2, 7, 100, 1 << 31, 1<<31 + 1, api.MaxNum - 1<<31, api.MaxNum - 100, api.MaxNum - 4, api.MaxNum} {
		for b := max(n-4, 0); b <= n+4; b++ {
			l = append(l, b)
		}
	}
	return l
}

// has is how many of l have byte b.
func has(l []api.Span, b int) int {
	times := 0
	for _, s := range l {
		if s.From <= b && b < s.To {
			times++
		}
	}
	return times
}

// longHolds holds the answer to l, of n bytes: at each place, and in its order.
func longHolds(t *testing.T, l []long, n int, points []int) {
	t.Helper()
	var texts []string
	var inOrder []api.Span
	for _, x := range l {
		texts = append(texts, x.text)
		if first, last := x.ends(n); some(n) && first <= last {
			inOrder = append(inOrder, at(first, last+1))
		}
	}
	header := "bytes=" + strings.Join(texts, ",")
	got, twice := ifrange.Choose(header, "", "v", n), false
	for _, b := range points {
		asked := has(inOrder, b)
		twice = twice || asked > 1
		if told := has(got.Spans, b); told != min(asked, 1) {
			t.Fatalf("%s of %d: %v has byte %d %d times; want %d", header, n, got, b, told, min(asked, 1))
		}
	}
	rising := true
	for i, s := range got.Spans {
		rising = rising && (i == 0 || got.Spans[i-1].To < s.From)
		if s.From < 0 || s.From >= s.To || s.To > n {
			t.Fatalf("%s of %d: %v isn't within", header, n, got)
		}
	}
	switch {
	case len(inOrder) == 0:
		chosen(t, header, "", "v", n, choice(416))
	case !twice:
		chosen(t, header, "", "v", n, choice(206, inOrder...))
	case got.Status != 206 || !rising:
		t.Fatalf("%s of %d: %v", header, n, got)
	}
}

// TestOfLong: all pairs of specs with small and great numbers, over objects of each length.
func TestOfLong(t *testing.T) {
	all, points := longSpecs(), places()
	for _, n := range lengths() {
		for _, a := range all {
			longHolds(t, []long{a}, n, points)
			for _, b := range all {
				longHolds(t, []long{a, b}, n, points)
			}
		}
	}
}

// P1 to P6.

// TestAnything: each call ends, and none panics, whatever it is given.
func TestAnything(t *testing.T) {
	texts := append(unasked(), conditions()...)
	texts = append(texts, tags()...)
	texts = append(texts, "bytes=0-4", "bytes=0-4,2-9", "bytes=5-9,0-4", strings.Repeat("\xff", 5000), strings.Repeat("bytes=", 5000), "bytes="+strings.Repeat("0-4,", 5000), strings.Repeat("\"", 5000))
	for i, header := range texts {
		for _, n := range lengths() {
			c := ifrange.Choose(header, texts[(i*7+3)%len(texts)], texts[(i*11+5)%len(texts)], n)
			if c.Status == 206 != (len(c.Spans) > 0) || c.Status != 200 && c.Status != 206 && c.Status != 416 || c.Status == 206 && !some(n) {
				t.Fatalf("%.200q of %d: %v", header, n, c)
			}
		}
	}
}

// TestNothing: a nil list and an empty one are the same.
func TestNothing(t *testing.T) {
	for _, status := range statuses() {
		for _, n := range lengths() {
			a, b := ifrange.Choice{Status: status}, ifrange.Choice{Status: status, Spans: []api.Span{}}
			if !slices.Equal(ifrange.Wants(a, n), ifrange.Wants(b, n)) || ifrange.Many(a) || ifrange.Many(b) || ifrange.Bytes(a, n) != ifrange.Bytes(b, n) {
				t.Errorf("%d, %d: a nil list and an empty one aren't the same", status, n)
			}
		}
	}
}

// spoil overwrites all of l, and what its memory has behind its length.
func spoil(l []api.Span) {
	for i := range l[:cap(l)] {
		l[:cap(l)][i] = at(-77, 77)
	}
}

// TestWantsOwnMemory: what is wanted shares no memory with the choice, or with another answer; what lies behind the length is neither read nor written.
func TestWantsOwnMemory(t *testing.T) {
	whole := list(at(20, 30), at(3, 7), at(40, 41), at(0, 1))
	for _, status := range []int{206, 200, 416} {
		for length := range len(whole) + 1 {
			memory := slices.Clone(whole)
			c := choice(status, memory[:length]...)
			var want []api.Span
			switch status {
			case 206:
				want = whole[:length]
			case 200:
				want = list(at(0, 50))
			}
			wanted(t, c, 50, want, status == 206 && length > 1, sum(want))
			first, second := ifrange.Wants(c, 50), ifrange.Wants(c, 50)
			spoil(first)
			if !slices.Equal(memory, whole) {
				t.Fatalf("%d: Wants changed, or answers, what it was given: %v", status, memory)
			}
			spoil(memory)
			if !slices.Equal(second, want) {
				t.Fatalf("%d: Wants shares memory with an answer, or with the argument: %v", status, second)
			}
		}
	}
}

// TestChooseOwnMemory: no two answers share memory.
func TestChooseOwnMemory(t *testing.T) {
	for _, header := range []string{"bytes=0-4", "bytes=5-9,0-4", "bytes=0-4,2-9", "bytes=50-59,30-39,10-19,59-62"} {
		first, second := ifrange.Choose(header, "", "v", 100), ifrange.Choose(header, "", "v", 100)
		kept := slices.Clone(second.Spans)
		spoil(first.Spans)
		if !slices.Equal(second.Spans, kept) {
			t.Fatalf("%s: two answers share memory", header)
		}
		chosen(t, header, "", "v", 100, second)
		told := ifrange.Wants(second, 100)
		spoil(told)
		if !slices.Equal(second.Spans, kept) {
			t.Fatalf("%s: what is wanted is the choice's own list", header)
		}
	}
}

// TestSameAnswers: an answer hangs on the arguments alone, not on the calls ahead of it.
func TestSameAnswers(t *testing.T) {
	for range 3 {
		asks(t, "bytes=0-4,2-9", 100, 206, at(0, 10))
		asks(t, "bytes=5-9,0-4", 100, 206, at(5, 10), at(0, 5))
		asks(t, "bytes=100-", 100, 416)
		asks(t, "bytes=x", 100, 200)
		asks(t, "", 100, 200)
		chosen(t, "bytes=0-4", quoted("w"), "v", 100, choice(200))
		chosen(t, "bytes=0-4", quoted("v"), "v", 100, choice(206, at(0, 5)))
		wanted(t, ifrange.Whole(7), 7, list(at(0, 7)), false, 7)
		wanted(t, ifrange.Whole(0), 0, nil, false, 0)
	}
}
