package multi_test

import (
	"bytes"
	"math"
	"regexp"
	"strconv"
	"strings"
	"testing"

	"spence/api"
	"spence/multi"
)

const (
	near = "4611686018427387902" // one below MaxNum
	most = "4611686018427387903" // MaxNum
	over = "4611686018427387904" // one above it
	far  = "99999999999999999999"
)

// full is a bound of as many bytes as may be.
var full = strings.Repeat("b", 40)

// piece is a part that begins there.
func piece(from int, body string) api.Part {
	return api.Part{At: api.Span{From: from, To: from + len(body)}, Body: []byte(body)}
}

// so is a part that says where it is, whatever its body.
func so(from, to int, body string) api.Part {
	return api.Part{At: api.Span{From: from, To: to}, Body: []byte(body)}
}

// row is n parts of one byte, one behind the other.
func row(n int) []api.Part {
	var l []api.Part
	for i := range n {
		l = append(l, piece(i, string(rune('a'+i))))
	}
	return l
}

// every is each byte there is, once.
func every() string {
	var b []byte
	for c := range 256 {
		b = append(b, byte(c))
	}
	return string(b)
}

// one is the text of one byte.
func one(c int) string { return string([]byte{byte(c)}) }

// shown is an independent reading of P8.2, of whatever parts.
func shown(l []api.Part, total int, bound string) string {
	var s strings.Builder
	for _, p := range l {
		s.WriteString("--" + bound + "\r\nContent-Range: bytes ")
		s.WriteString(strconv.Itoa(p.At.From) + "-" + strconv.Itoa(p.At.To-1) + "/" + strconv.Itoa(total))
		s.WriteString("\r\n\r\n" + string(p.Body) + "\r\n")
	}
	return s.String() + "--" + bound + "--\r\n"
}

// mayBe is an independent reading of P8.1.
func mayBe(l []api.Part, total int) bool {
	right := len(l) > 0 && len(l) < 17 && total >= 0 && total <= api.MaxNum
	for _, p := range l {
		right = right && p.At.From >= 0 && p.At.From < p.At.To && p.At.To <= total && p.At.To-p.At.From == len(p.Body)
	}
	return right
}

// bounds is what a bound may be.
var bounds = regexp.MustCompile("^[A-Za-z0-9!#$%&'*+.^_`|~-]{1,40}$")

// heads are the patterns of what stands ahead of a body, by their bounds.
var heads = map[string]*regexp.Regexp{}

// headOf is the pattern of what stands ahead of a body.
func headOf(bound string) *regexp.Regexp {
	if heads[bound] == nil {
		const n = `(0|[1-9][0-9]{0,18})`
		heads[bound] = regexp.MustCompile(`^--` + regexp.QuoteMeta(bound) + `\r\nContent-Range: bytes ` + n + `-` + n + `/` + n + `\r\n\r\n`)
	}
	return heads[bound]
}

// expected is what Read must answer: an independent reading of P8.3.
func expected(b []byte, bound string) ([]api.Part, int, api.Errno) {
	if !bounds.MatchString(bound) {
		return nil, 0, api.ErrArg
	}
	var l []api.Part
	totals := map[uint64]bool{}
	for string(b) != "--"+bound+"--\r\n" {
		m := headOf(bound).FindSubmatch(b)
		if m == nil {
			return nil, 0, api.ErrForm
		}
		first, _ := strconv.ParseUint(string(m[1]), 10, 64)
		last, _ := strconv.ParseUint(string(m[2]), 10, 64)
		total, _ := strconv.ParseUint(string(m[3]), 10, 64)
		totals[total] = true
		b = b[len(m[0]):]
		if first > last || last >= total || total > api.MaxNum || last-first+3 > uint64(len(b)) {
			return nil, 0, api.ErrForm
		}
		n := int(last - first + 1)
		l = append(l, piece(int(first), string(b[:n])))
		if b[n] != 13 || b[n+1] != 10 {
			return nil, 0, api.ErrForm
		}
		b = b[n+2:]
	}
	if len(l) < 1 || len(l) > 16 || len(totals) != 1 {
		return nil, 0, api.ErrForm
	}
	for total := range totals {
		return l, int(total), api.OK
	}
	return nil, 0, api.ErrForm
}

// alike is whether two lists say the same.
func alike(a, b []api.Part) bool {
	if len(a) != len(b) {
		return false
	}
	for i := range a {
		if a[i].At != b[i].At || !bytes.Equal(a[i].Body, b[i].Body) {
			return false
		}
	}
	return true
}

// copied is l in memory of its own.
func copied(l []api.Part) []api.Part {
	var out []api.Part
	for _, p := range l {
		out = append(out, so(p.At.From, p.At.To, string(p.Body)))
	}
	return out
}

// sample is what may be put.
type sample struct {
	l     []api.Part
	total int
	bound string
}

// short are samples of few bytes.
func short() []sample {
	return []sample{
		{[]api.Part{piece(0, "ab"), piece(4, "\n")}, 9, "x"},
		{[]api.Part{piece(0, "a")}, 1, "x"},
		{[]api.Part{piece(7, "abc")}, 10, "spence"},
		{[]api.Part{piece(9, "x"), piece(0, "--x"), piece(9, "x")}, 10, "x"},
		{[]api.Part{piece(3, "\r\n--x--\r\n")}, 100, "x"},
		{[]api.Part{piece(10, "\x00\xff"), piece(0, "\r\n")}, 12, "--"},
		{[]api.Part{piece(api.MaxNum-1, "z")}, api.MaxNum, "-"},
		{[]api.Part{piece(0, "a"), piece(0, "a")}, 1, "0"},
		{[]api.Part{piece(0, "ab"), piece(1, "bc"), piece(0, "abc")}, 3, "'*`|~"},
	}
}

// long are samples with more bytes, or more parts.
func long() []sample {
	whole := shown([]api.Part{piece(0, "ab")}, 9, "x")
	l := []sample{
		{row(16), 16, "x"},
		{row(16), api.MaxNum, full},
		{row(1), 1, full},
		{row(2), 2, full[1:]},
		{[]api.Part{piece(5, every())}, 1000, "x"},
		{[]api.Part{piece(0, strings.Repeat(every(), 16)), piece(100, every())}, 4096, "spence"},
		{[]api.Part{piece(0, strings.Repeat("\r\n", 1000))}, 2000, "x"},
		{[]api.Part{piece(0, whole)}, len(whole), "x"},
		{[]api.Part{piece(3, whole+whole), piece(0, whole)}, 1000, "x"},
		{[]api.Part{piece(3, whole), piece(0, whole)}, 1000, "y"},
		{[]api.Part{piece(api.MaxNum-256, every()), piece(0, "a")}, api.MaxNum, "x"},
	}
	for _, body := range bodies() {
		l = append(l, sample{[]api.Part{piece(0, body)}, 4096, "x"})
		l = append(l, sample{[]api.Part{piece(8, body), piece(0, "a"), piece(2, body)}, 4096, "x"})
	}
	return l
}

// bodies are those that could be mistaken for something else, in a body of the bound x.
func bodies() []string {
	l := []string{
		"\r", "\n", "\r\n", "\n\r", "\r\r\n", "\r\n\r\n", "\r\n\r\n\r\n", "-", "--", "--\r\n", "x", "--x", "--x\r\n", "--x--", "--x--\r\n", "\r\n--x", "\r\n--x\r\n", "\r\n--x--", "\r\n--x--\r\n", "--x----x--\r\n", "a\r\n--x--\r\nb",
		"Content-Range: ", "Content-Range: bytes 0-0/1", "Content-Range: bytes 0-0/1\r\n\r\n", "--x\r\nContent-Range: bytes 0-0/4096\r\n\r\na\r\n", "\r\n--x\r\nContent-Range: bytes 0-0/4096\r\n\r\na", "\r\n--x\r\nContent-Range: bytes 0-0/4096\r\n\r\na\r\n--x--\r\n",
		"bytes 0-4/10", "0", " ", "\t", "\x00", "\xff", "\x00\xff\x00\xff", strings.Repeat("\x00", 100), strings.Repeat("\xff", 100), "\u00e4\u2014", every(),
	}
	for c := range 256 {
		l = append(l, one(c))
	}
	return l
}

// all is each sample.
func all() []sample { return append(short(), long()...) }

// reads holds that b is read as that.
func reads(t *testing.T, b, bound string, want []api.Part, total int) {
	t.Helper()
	l, n, errno := multi.Read([]byte(b), bound)
	if !alike(l, want) || n != total || errno != api.OK {
		t.Fatalf("Read(%.300q, %q) = %.300v, %d, %d, want %.300v, %d, OK", b, bound, l, n, errno, want, total)
	}
}

// refused holds that b is refused with that error, and nothing beside it.
func refused(t *testing.T, b, bound string, want api.Errno) {
	t.Helper()
	if l, n, errno := multi.Read([]byte(b), bound); l != nil || n != 0 || errno != want {
		t.Errorf("Read(%.300q, %q) = %.300v, %d, %d, want nothing, %d", b, bound, l, n, errno, want)
	}
}

// holds holds b against the independent reading.
func holds(t *testing.T, b []byte, bound string) {
	t.Helper()
	want, total, wantErrno := expected(b, bound)
	l, n, errno := multi.Read(b, bound)
	if !alike(l, want) || n != total || errno != wantErrno || errno != api.OK && l != nil {
		t.Fatalf("Read(%.300q, %q) = %.300v, %d, %d, want %.300v, %d, %d", b, bound, l, n, errno, want, total, wantErrno)
	}
}

// puts holds that it is put as the independent reading tells, and that Size says how long that is.
func puts(t *testing.T, x sample) {
	t.Helper()
	want := shown(x.l, x.total, x.bound)
	if b, errno := multi.Put(x.l, x.total, x.bound); string(b) != want || errno != api.OK {
		t.Fatalf("Put(%.300v, %d, %q) = %.300q, %d, want %.300q, OK", x.l, x.total, x.bound, b, errno, want)
	}
	if n := multi.Size(x.l, x.total, x.bound); n != len(want) {
		t.Fatalf("Size(%.300v, %d, %q) = %d, want %d", x.l, x.total, x.bound, n, len(want))
	}
}

// putsNot holds that it may not be put.
func putsNot(t *testing.T, x sample) {
	t.Helper()
	if b, errno := multi.Put(x.l, x.total, x.bound); b != nil || errno != api.ErrArg {
		t.Errorf("Put(%.300v, %d, %.50q) = %.300q, %d, want nothing, ErrArg", x.l, x.total, x.bound, b, errno)
	}
	if n := multi.Size(x.l, x.total, x.bound); n != 0 {
		t.Errorf("Size(%.300v, %d, %.50q) = %d, want 0", x.l, x.total, x.bound, n)
	}
}

// wrong is a list that isn't Right of a total, and why.
type wrong struct {
	name  string
	l     []api.Part
	total int
}

// wrongs are those at the edges.
func wrongs() []wrong {
	a := piece(0, "ab")
	return []wrong{
		{"no part", nil, 10},
		{"no part, an empty list", []api.Part{}, 10},
		{"no part of nothing", nil, 0},
		{"no part, total -1", nil, -1},
		{"17 parts", row(17), 17},
		{"18 parts", row(18), 100},
		{"1,000 times a part", slicesOf(a, 1000), 100},
		{"total -1", []api.Part{a}, -1},
		{"total -2", []api.Part{a}, -2},
		{"the least total", []api.Part{a}, math.MinInt},
		{"total 0", []api.Part{a}, 0},
		{"total 1", []api.Part{a}, 1},
		{"total 0, no body", []api.Part{so(0, 0, "")}, 0},
		{"total one above MaxNum", []api.Part{a}, api.MaxNum + 1},
		{"the greatest total", []api.Part{a}, math.MaxInt},
		{"one less than where a span ends", []api.Part{piece(3, "abc")}, 5},
		{"one less than where the second one ends", []api.Part{a, piece(3, "abc")}, 5},
		{"one less than where the first one ends", []api.Part{piece(3, "abc"), a}, 5},
		{"a span behind the total", []api.Part{piece(5, "a")}, 5},
		{"one byte less", []api.Part{so(0, 3, "ab")}, 10},
		{"one byte more", []api.Part{so(0, 1, "ab")}, 10},
		{"one byte less in the second one", []api.Part{a, so(0, 3, "ab")}, 10},
		{"one byte more in the first one", []api.Part{so(0, 1, "ab"), a}, 10},
		{"one byte more and one less", []api.Part{so(0, 1, "ab"), so(0, 3, "ab")}, 10},
		{"an empty body", []api.Part{so(0, 1, "")}, 10},
		{"no body", []api.Part{{At: api.Span{From: 0, To: 1}}}, 10},
		{"no bytes at 0", []api.Part{so(0, 0, "")}, 10},
		{"no bytes at 5", []api.Part{so(5, 5, "")}, 10},
		{"no bytes beside others", []api.Part{a, so(5, 5, "")}, 10},
		{"a part of nothing", []api.Part{{}}, 10},
		{"a span of nothing with a body", []api.Part{so(5, 5, "a")}, 10},
		{"a span the wrong way round", []api.Part{so(6, 5, "a")}, 10},
		{"a span the wrong way round, no body", []api.Part{so(6, 5, "")}, 10},
		{"a span below 0", []api.Part{so(-1, 1, "ab")}, 10},
		{"a span below 0 alone", []api.Part{so(-3, -1, "ab")}, 10},
		{"a span below 0, and as low a total", []api.Part{so(-3, -1, "ab")}, -1},
		{"a span far below 0", []api.Part{so(math.MinInt, math.MinInt+2, "ab")}, 10},
		{"a span to one above MaxNum", []api.Part{piece(api.MaxNum-1, "ab")}, api.MaxNum},
		{"a span to one above MaxNum, and as much", []api.Part{piece(api.MaxNum-1, "ab")}, api.MaxNum + 1},
		{"a span at MaxNum", []api.Part{piece(api.MaxNum, "a")}, math.MaxInt},
		{"a span to the greatest int", []api.Part{piece(math.MaxInt-1, "a")}, math.MaxInt},
		{"all that may be, of few bytes", []api.Part{so(0, api.MaxNum, "ab")}, api.MaxNum},
		{"a span that wraps round", []api.Part{so(math.MinInt, math.MaxInt, "ab")}, api.MaxNum},
		{"a length that wraps round to 2", []api.Part{so(math.MaxInt, math.MinInt+1, "ab")}, api.MaxNum},
		{"the last of 16 is wrong", append(row(15), so(0, 2, "a")), 16},
	}
}

// slicesOf is so many times that part.
func slicesOf(p api.Part, n int) []api.Part {
	var l []api.Part
	for range n {
		l = append(l, p)
	}
	return l
}

// P8.1.

func TestRight(t *testing.T) {
	for _, x := range all() {
		if !multi.Right(x.l, x.total) {
			t.Errorf("Right(%.300v, %d) = false", x.l, x.total)
		}
	}
	for _, x := range wrongs() {
		if multi.Right(x.l, x.total) {
			t.Errorf("%s: Right(%.300v, %d) = true", x.name, x.l, x.total)
		}
	}
}

func TestRightParts(t *testing.T) {
	for n := range 40 {
		l := row(n)
		if got := multi.Right(l, 100); got != (1 <= n && n <= 16) {
			t.Errorf("of %d parts: %t", n, got)
		}
	}
}

func TestRightTotals(t *testing.T) {
	for _, x := range []struct {
		part  api.Part
		total int
		want  bool
	}{
		{piece(0, "a"), -1, false}, {piece(0, "a"), 0, false}, {piece(0, "a"), 1, true}, {piece(0, "a"), 2, true},
		{piece(3, "ab"), 4, false}, {piece(3, "ab"), 5, true}, {piece(3, "ab"), 6, true},
		{piece(3, "ab"), api.MaxNum - 1, true}, {piece(3, "ab"), api.MaxNum, true}, {piece(3, "ab"), api.MaxNum + 1, false}, {piece(3, "ab"), math.MaxInt, false}, {piece(3, "ab"), math.MinInt, false},
		{piece(api.MaxNum-2, "ab"), api.MaxNum - 1, false}, {piece(api.MaxNum-2, "ab"), api.MaxNum, true}, {piece(api.MaxNum-2, "ab"), api.MaxNum + 1, false},
		{piece(api.MaxNum-1, "ab"), api.MaxNum, false}, {piece(api.MaxNum-1, "ab"), api.MaxNum + 1, false},
	} {
		for _, l := range [][]api.Part{{x.part}, {x.part, x.part}, slicesOf(x.part, 16)} {
			if got := multi.Right(l, x.total); got != x.want {
				t.Errorf("Right(%v, %d) = %t, want %t", l, x.total, got, x.want)
			}
		}
	}
}

// TestRightOfEach: of each span with small numbers, or with those at the edges, with bodies of each small length, ahead of a right part and behind it.
func TestRightOfEach(t *testing.T) {
	numbers := []int{math.MinInt, math.MinInt + 1, -api.MaxNum, -2, -1, 0, 1, 2, 3, 4, api.MaxNum - 2, api.MaxNum - 1, api.MaxNum, api.MaxNum + 1, math.MaxInt - 1, math.MaxInt}
	for _, from := range numbers {
		for _, to := range numbers {
			for _, total := range numbers {
				for length := range 5 {
					p := so(from, to, "abcd"[:length])
					for _, l := range [][]api.Part{{p}, {p, piece(0, "a")}, {piece(0, "a"), p}} {
						if got, want := multi.Right(l, total), mayBe(l, total); got != want {
							t.Fatalf("Right(%v, %d) = %t, want %t", l, total, got, want)
						}
					}
				}
			}
		}
	}
}

func TestType(t *testing.T) {
	for _, x := range []string{"", "x", "spence", "SpencE", "a b", " a ", "\"", ";", "\r\n", "\x00\xff", "=", full, full + "b", strings.Repeat("x", 5000)} {
		if got := multi.Type(x); got != "multipart/byteranges; boundary="+x {
			t.Errorf("Type(%.50q) = %.100q", x, got)
		}
	}
	if got := multi.Type("x"); got != "multipart/byteranges; boundary=x" {
		t.Errorf("%q", got)
	}
}

// P8.2.

func TestPut(t *testing.T) {
	for _, x := range []struct {
		sample
		want string
	}{
		{
			sample{[]api.Part{piece(0, "ab"), piece(4, "\n")}, 9, "x"},
			"--x\r\nContent-Range: bytes 0-1/9\r\n\r\nab\r\n--x\r\nContent-Range: bytes 4-4/9\r\n\r\n\n\r\n--x--\r\n",
		},
		{
			sample{[]api.Part{piece(0, "a")}, 1, "spence"},
			"--spence\r\nContent-Range: bytes 0-0/1\r\n\r\na\r\n--spence--\r\n",
		},
		{
			sample{[]api.Part{piece(10, "\r\n--x--\r\n"), piece(0, "\x00"), piece(0, "\xff")}, 100, "x"},
			"--x\r\nContent-Range: bytes 10-18/100\r\n\r\n\r\n--x--\r\n\r\n--x\r\nContent-Range: bytes 0-0/100\r\n\r\n\x00\r\n--x\r\nContent-Range: bytes 0-0/100\r\n\r\n\xff\r\n--x--\r\n",
		},
		{
			sample{[]api.Part{piece(api.MaxNum-2, "yz")}, api.MaxNum, "--"},
			"----\r\nContent-Range: bytes 4611686018427387901-" + near + "/" + most + "\r\n\r\nyz\r\n------\r\n",
		},
	} {
		puts(t, x.sample)
		if b, _ := multi.Put(x.l, x.total, x.bound); string(b) != x.want {
			t.Errorf("%q, want %q", b, x.want)
		}
	}
	for _, x := range all() {
		puts(t, x)
	}
}

func TestPutNotRight(t *testing.T) {
	for _, x := range wrongs() {
		for _, bound := range []string{"x", full, "", "a b", full + "b"} {
			putsNot(t, sample{x.l, x.total, bound})
		}
	}
}

func TestPutParts(t *testing.T) {
	for n := range 40 {
		x := sample{row(n), 100, "x"}
		if 1 <= n && n <= 16 {
			puts(t, x)
		} else {
			putsNot(t, x)
		}
	}
}

// wrongBounds are those that may not be.
func wrongBounds() []string {
	l := []string{"", " ", "a b", " a", "a ", "\t", "a\tb", "a\r\n", "\r\n", "a\x00", "\x00", "\xff", "\"a\"", "a;b", "a=b", "a/b", "a:b", "a,b", "a@b", "(a)", "[a]", "{a}", "<a>", "a?b", "a\\b", "\u00e4", "a\u2014", "a\x7f", "\x80"}
	for _, n := range []int{41, 42, 80, 256, 1000, 1 << 16} {
		l = append(l, strings.Repeat("b", n))
	}
	return append(l, full+"b", full+" ", full[1:]+" ", " "+full[1:], full[2:]+"\u00e4", full[1:]+"\r\n")
}

func TestPutBound(t *testing.T) {
	l := []api.Part{piece(0, "ab"), piece(4, "\n")}
	for n := 1; n <= 40; n++ {
		for _, bound := range []string{strings.Repeat("b", n), strings.Repeat("-", n), strings.Repeat("0", n)} {
			puts(t, sample{l, 9, bound})
		}
	}
	for _, bound := range wrongBounds() {
		putsNot(t, sample{l, 9, bound})
	}
}

func TestPutBoundEachByte(t *testing.T) {
	for c := range 256 {
		for _, bound := range []string{one(c), one(c) + "b", "b" + one(c), "b" + one(c) + "b", full[1:] + one(c), one(c) + full[1:]} {
			x := sample{[]api.Part{piece(0, "ab")}, 9, bound}
			if bounds.MatchString(bound) {
				puts(t, x)
				reads(t, shown(x.l, x.total, bound), bound, x.l, x.total)
			} else {
				putsNot(t, x)
				refused(t, shown(x.l, x.total, bound), bound, api.ErrArg)
			}
		}
	}
}

// TestPutOfEach: as in TestRightOfEach, for what is Right and what isn't.
func TestPutOfEach(t *testing.T) {
	for from := -2; from <= 5; from++ {
		for to := -2; to <= 5; to++ {
			for total := -2; total <= 6; total++ {
				for length := range 5 {
					p := so(from, to, "abcd"[:length])
					for _, l := range [][]api.Part{{p}, {p, piece(0, "a")}, {piece(0, "a"), p}} {
						if mayBe(l, total) {
							puts(t, sample{l, total, "x"})
						} else {
							putsNot(t, sample{l, total, "x"})
						}
					}
				}
			}
		}
	}
}

// TestSizeOfMuch: parts may have their bytes from one place, so that Put of them would be long.
func TestSizeOfMuch(t *testing.T) {
	const n = 1 << 22
	body := make([]byte, n)
	l := slicesOf(api.Part{At: api.Span{From: 0, To: n}, Body: body}, 16)
	head := len("--x\r\nContent-Range: bytes 0-4194303/4194304\r\n\r\n")
	if got, want := multi.Size(l, n, "x"), 16*(head+n+2)+len("--x--\r\n"); got != want {
		t.Errorf("%d, want %d", got, want)
	}
}

// P8.3.

func TestRead(t *testing.T) {
	reads(t, "--x\r\nContent-Range: bytes 0-0/1\r\n\r\na\r\n--x--\r\n", "x", []api.Part{piece(0, "a")}, 1)
	reads(t, "--x\r\nContent-Range: bytes 3-4/10\r\n\r\nab\r\n--x\r\nContent-Range: bytes 0-1/10\r\n\r\n\r\n\r\n--x--\r\n", "x", []api.Part{piece(3, "ab"), piece(0, "\r\n")}, 10)
	reads(t, "--x--\r\nContent-Range: bytes 3-4/10\r\n\r\nab\r\n--x----\r\n", "x--", []api.Part{piece(3, "ab")}, 10)
	reads(t, "----\r\nContent-Range: bytes 3-4/10\r\n\r\nab\r\n------\r\n", "--", []api.Part{piece(3, "ab")}, 10)
	reads(t, "---\r\nContent-Range: bytes "+near+"-"+near+"/"+most+"\r\n\r\n\x00\r\n-----\r\n", "-", []api.Part{piece(api.MaxNum-1, "\x00")}, api.MaxNum)
	for _, x := range all() {
		b := shown(x.l, x.total, x.bound)
		reads(t, b, x.bound, x.l, x.total)
		holds(t, []byte(b), x.bound)
	}
}

func TestReadBound(t *testing.T) {
	right := shown([]api.Part{piece(0, "ab")}, 9, "x")
	for _, bound := range wrongBounds() {
		for _, b := range []string{"", right, "--x--\r\n", shown([]api.Part{piece(0, "ab")}, 9, bound), "--" + bound + "--\r\n", "junk"} {
			refused(t, b, bound, api.ErrArg)
		}
	}
	for n := 1; n <= 40; n++ {
		bound := strings.Repeat("b", n)
		reads(t, shown([]api.Part{piece(0, "ab")}, 9, bound), bound, []api.Part{piece(0, "ab")}, 9)
	}
}

func TestReadAnotherBound(t *testing.T) {
	l := []string{"x", "y", "X", "xx", "xxx", "x-", "x--", "-x", "--x", "-", "--", "---", "----", "0", "bytes", "Content-Range", full, full[1:], full[2:] + "-"}
	for _, a := range l {
		for _, b := range l {
			for _, p := range [][]api.Part{{piece(0, "ab")}, {piece(0, "--"), piece(0, a), piece(0, b)}} {
				whole := shown(p, 99, a)
				if a == b {
					reads(t, whole, b, p, 99)
				} else {
					refused(t, whole, b, api.ErrForm)
				}
			}
		}
	}
}

func TestReadAnotherBoundWithin(t *testing.T) {
	for _, b := range []string{
		"--x\r\nContent-Range: bytes 0-0/9\r\n\r\na\r\n--y\r\nContent-Range: bytes 1-1/9\r\n\r\nb\r\n--x--\r\n",
		"--y\r\nContent-Range: bytes 0-0/9\r\n\r\na\r\n--x\r\nContent-Range: bytes 1-1/9\r\n\r\nb\r\n--x--\r\n",
		"--x\r\nContent-Range: bytes 0-0/9\r\n\r\na\r\n--x\r\nContent-Range: bytes 1-1/9\r\n\r\nb\r\n--y--\r\n",
		"--x\r\nContent-Range: bytes 0-0/9\r\n\r\na\r\n--X--\r\n",
		"--X\r\nContent-Range: bytes 0-0/9\r\n\r\na\r\n--x--\r\n",
		"--xy\r\nContent-Range: bytes 0-0/9\r\n\r\na\r\n--x--\r\n",
		"--x\r\nContent-Range: bytes 0-0/9\r\n\r\na\r\n--xy--\r\n",
	} {
		refused(t, b, "x", api.ErrForm)
	}
}

func TestReadForm(t *testing.T) {
	const open, head = "--x\r\nContent-Range: ", "--x\r\nContent-Range: bytes 0-1/9\r\n\r\n"
	const part, last = head + "ab\r\n", "--x--\r\n"
	for _, b := range []string{
		"", "-", "--", "--x", "--x\r\n", "--x--", "--x--\r", "--x--\n", "--x---\r\n", "x--\r\n", "\r\n", "\r\n\r\n", "--\r\n", "----\r\n", "junk", "\x00", "\xff", " ",
		last, last + last, "\r\n" + last, last + "\r\n",
		head, part, head + "ab", head + "ab" + last, head + "ab--x--", head + "a\r\n" + last, head + "abc\r\n" + last, head + "\r\n" + last, head + last, head + "ab\r\n\r\n" + last, head + "\r\nab\r\n" + last, head + "ab\n" + last, head + "ab\r" + last, head + "ab\n\r" + last,
		part + "--x--", part + "--x--\r", part + "--x--\n", part + "--x--\r\n\r\n", part + "--x--\r\n\n", part + "--x--\r\n\x00", part + "--x--\r\n ", part + "--x--\r\n-", part + last + last, part + last + part, part + last + part + last, part + "\r\n" + last, part + last[2:], part + "--x\r\n", part + "--x-\r\n", part + "--x---\r\n", part + "--x --\r\n", part + "--x--\t\r\n", part + "--x-- \r\n", part + "-- x--\r\n",
		last + part, last + part + last, part + "--x\r\n" + last, part + open + last, part + open, part + open + "\r\n\r\n", part + head, part + head + last,
		"\r\n" + part + last, " " + part + last, "\n" + part + last, "-" + part + last, "\x00" + part + last, "preamble\r\n" + part + last, part + last + "epilogue", part + last + "epilogue\r\n", "\ufeff" + part + last,
		"--x\nContent-Range: bytes 0-1/9\n\nab\n--x--\n", "--x\rContent-Range: bytes 0-1/9\r\rab\r--x--\r",
		"--x\r\nContent-Range: bytes 0-1/9\r\nab\r\n" + last, "--x\r\nContent-Range: bytes 0-1/9\r\n\r\n\r\nab\r\n" + last, "--x\r\n\r\nContent-Range: bytes 0-1/9\r\n\r\nab\r\n" + last, "--x\r\nContent-Range: bytes 0-1/9\r\n \r\nab\r\n" + last,
		"--x\r\nContent-Type: text/plain\r\nContent-Range: bytes 0-1/9\r\n\r\nab\r\n" + last, "--x\r\nContent-Range: bytes 0-1/9\r\nContent-Type: text/plain\r\n\r\nab\r\n" + last, "--x\r\nContent-Range: bytes 0-1/9\r\nContent-Range: bytes 0-1/9\r\n\r\nab\r\n" + last, "--x\r\n\r\nab\r\n" + last, "--x\r\nContent-Type: text/plain\r\n\r\nab\r\n" + last,
		"--x\r\ncontent-range: bytes 0-1/9\r\n\r\nab\r\n" + last, "--x\r\nContent-range: bytes 0-1/9\r\n\r\nab\r\n" + last, "--x\r\nCONTENT-RANGE: bytes 0-1/9\r\n\r\nab\r\n" + last, "--x\r\nContent-Range:bytes 0-1/9\r\n\r\nab\r\n" + last, "--x\r\nContent-Range:  bytes 0-1/9\r\n\r\nab\r\n" + last, "--x\r\nContent-Range:\tbytes 0-1/9\r\n\r\nab\r\n" + last, "--x\r\nContent-Range : bytes 0-1/9\r\n\r\nab\r\n" + last, "--x\r\n Content-Range: bytes 0-1/9\r\n\r\nab\r\n" + last, "--x \r\nContent-Range: bytes 0-1/9\r\n\r\nab\r\n" + last, "--x\r\nRange: bytes 0-1/9\r\n\r\nab\r\n" + last,
		"-x\r\nContent-Range: bytes 0-1/9\r\n\r\nab\r\n" + last, "---x\r\nContent-Range: bytes 0-1/9\r\n\r\nab\r\n" + last, "x\r\nContent-Range: bytes 0-1/9\r\n\r\nab\r\n" + last,
		strings.ToUpper(part + last), strings.ToLower(part + last),
	} {
		refused(t, b, "x", api.ErrForm)
		holds(t, []byte(b), "x")
	}
	reads(t, part+last, "x", []api.Part{piece(0, "ab")}, 9)
}

// field is a body of one part, with such a Content-Range.
func field(s, body string) string {
	return "--x\r\nContent-Range: " + s + "\r\n\r\n" + body + "\r\n--x--\r\n"
}

func TestReadContentRange(t *testing.T) {
	reads(t, field("bytes 0-1/9", "ab"), "x", []api.Part{piece(0, "ab")}, 9)
	for _, s := range []string{
		"bytes 00-1/9", "bytes 0-01/9", "bytes 0-1/09", "bytes 000-001/009", "bytes 0-1/0000000000000000000000009",
		"Bytes 0-1/9", "BYTES 0-1/9", "bytEs 0-1/9", "byteS 0-1/9",
		"bytes */9", "bytes 0-1/*", "bytes */*", "bytes *", "bytes 0-1", "bytes 0-1/", "bytes /9", "bytes -1/9", "bytes 0-/9", "bytes -/9", "bytes 1/9",
		"bytes 0-1/1", "bytes 0-1/0", "bytes 8-9/9", "bytes 9-10/9", "bytes 1-0/9", "bytes 2-1/9",
		"bytes 0-0/9", "bytes 0-2/9", "bytes 1-1/9", "bytes 1-3/9",
		"bytes 0-1/-1", "bytes 0-1/-9", "bytes -0-1/9", "bytes +0-1/9", "bytes 0-+1/9", "bytes 0-1/+9",
		"bytes 0-1/" + over, "bytes 0-1/" + far, "bytes 0-" + near + "/" + most, "bytes 0-" + most + "/" + most, "bytes 0-" + most + "/" + over, "bytes 0-" + far + "/9", "bytes " + far + "-1/9", "bytes */" + over, "bytes */" + most,
		"bytes 4611686018427387902-" + most + "/" + over, "bytes 4611686018427387903-" + over + "/" + far, "bytes 0-18446744073709551617/18446744073709551618", "bytes 0-1/18446744073709551625",
		"", " ", "bytes", "bytes ", "0-1/9", "bytes=0-1/9", "items 0-1/9", "bytes  0-1/9", "bytes\t0-1/9", " bytes 0-1/9", "bytes 0-1/9 ", "bytes 0 -1/9", "bytes 0- 1/9", "bytes 0-1 /9", "bytes 0-1/ 9", "bytes 0-1/9\t", "bytes 0-1/9,", "bytes 0-1/9;", "bytes 0-1,4-5/9", "bytes 0-1/9\r", "bytes 0-1/9\n", "\rbytes 0-1/9", "\nbytes 0-1/9", "bytes 0-1/9\x00", "bytes 0-1\r\n/9", "bytes 0-1/9\r\n\r\nbytes 0-1/9",
		"bytes 0x0-0x1/0x9", "bytes 0-1/9.0", "bytes a-b/c", "\"bytes 0-1/9\"", "Content-Range: bytes 0-1/9",
	} {
		refused(t, field(s, "ab"), "x", api.ErrForm)
		holds(t, []byte(field(s, "ab")), "x")
		// Also with an empty body, and without the end of its line.
		refused(t, field(s, ""), "x", api.ErrForm)
		refused(t, "--x\r\nContent-Range: "+s+"\r\n\r\n--x--\r\n", "x", api.ErrForm)
		behind := "--x\r\nContent-Range: bytes 0-1/9\r\n\r\nab\r\n" + field(s, "ab")
		refused(t, behind, "x", api.ErrForm)
		holds(t, []byte(behind), "x")
		ahead := strings.TrimSuffix(field(s, "ab"), "--x--\r\n") + field("bytes 0-1/9", "ab")
		refused(t, ahead, "x", api.ErrForm)
		holds(t, []byte(ahead), "x")
	}
	// No span, a span of no bytes, and one the wrong way round: with no byte, and with one.
	for _, s := range []string{"bytes 1-0/9", "bytes 5-4/9", "bytes 5-5/5", "bytes 0-0/0", "bytes */0", "bytes */1"} {
		refused(t, field(s, ""), "x", api.ErrForm)
		refused(t, field(s, "a"), "x", api.ErrForm)
	}
}

func TestReadTotals(t *testing.T) {
	for _, x := range [][]string{
		{"9", "8"}, {"9", "10"}, {"9", "9", "8"}, {"8", "9", "9"}, {"9", "8", "9"}, {"9", "*"}, {"*", "9"}, {"9", "09"}, {"09", "9"}, {"09", "09"}, {"*", "*"}, {"9", "1"}, {"1", "9"}, {"9", most}, {most, "9"}, {most, near}, {most, over}, {"9", ""}, {"", "9"}, {"9", "0"}, {"0", "9"}, {"9", "-1"},
	} {
		b := ""
		for _, total := range x {
			b += "--x\r\nContent-Range: bytes 0-0/" + total + "\r\n\r\na\r\n"
		}
		refused(t, b+"--x--\r\n", "x", api.ErrForm)
		holds(t, []byte(b+"--x--\r\n"), "x")
	}
	for _, total := range []string{"1", "9", near, most} {
		b := strings.Repeat("--x\r\nContent-Range: bytes 0-0/"+total+"\r\n\r\na\r\n", 3) + "--x--\r\n"
		n, _ := strconv.Atoi(total)
		reads(t, b, "x", slicesOf(piece(0, "a"), 3), n)
	}
}

func TestReadParts(t *testing.T) {
	for n := range 40 {
		b := shown(row(n), 100, "x")
		if 1 <= n && n <= 16 {
			reads(t, b, "x", row(n), 100)
		} else {
			refused(t, b, "x", api.ErrForm)
		}
		holds(t, []byte(b), "x")
	}
	refused(t, shown(slicesOf(piece(0, "a"), 10000), 1, "x"), "x", api.ErrForm)
}

// TestReadEachByte: each byte of a right one left out, doubled, and turned into each other one; and each byte at each place beside.
func TestReadEachByte(t *testing.T) {
	for _, x := range short() {
		b := shown(x.l, x.total, x.bound)
		for at := range len(b) + 1 {
			holds(t, []byte(b[:at]), x.bound)
			holds(t, []byte(b[at:]), x.bound)
			for c := range 256 {
				holds(t, []byte(b[:at]+one(c)+b[at:]), x.bound)
				if at < len(b) {
					holds(t, []byte(b[:at]+one(c)+b[at+1:]), x.bound)
				}
			}
		}
	}
}

// TestReadOneByte: no byte may be left out or doubled, but for digits, with which a place or a total may still be told; and each bit of each byte turned.
func TestReadOneByte(t *testing.T) {
	for _, x := range all() {
		b := shown(x.l, x.total, x.bound)
		if len(b) > 1500 {
			continue
		}
		for at := range b {
			for _, s := range []string{b[:at] + b[at+1:], b[:at+1] + b[at:]} {
				holds(t, []byte(s), x.bound)
				if '0' > b[at] || b[at] > '9' {
					refused(t, s, x.bound, api.ErrForm)
				}
			}
			turned := []byte(b)
			for bit := range 8 {
				turned[at] = b[at] ^ 1<<bit
				holds(t, turned, x.bound)
			}
		}
	}
}

// TestReadCut: no beginning of a right one is a right one, whatever its bodies have in them.
func TestReadCut(t *testing.T) {
	for _, x := range all() {
		b := shown(x.l, x.total, x.bound)
		if len(b) > 1500 {
			continue
		}
		for at := range b {
			refused(t, b[:at], x.bound, api.ErrForm)
			// An end of it may be a right one, where a part begins.
			holds(t, []byte(b[at:]), x.bound)
		}
	}
}

// TestReadShortBody: a body that ends early, with the closing line behind it, and one that ends late.
func TestReadShortBody(t *testing.T) {
	for _, body := range bodies() {
		told := len(body)
		for _, claims := range []int{told - 2, told - 1, told + 1, told + 2, told + 3, told + 9, told + 10, api.MaxNum} {
			if claims < 1 {
				continue
			}
			b := field("bytes 0-"+strconv.Itoa(claims-1)+"/"+most, body)
			want, n, errno := expected([]byte(b), "x")
			if errno == api.OK {
				reads(t, b, "x", want, n)
			} else {
				refused(t, b, "x", api.ErrForm)
			}
		}
		reads(t, field("bytes 0-"+strconv.Itoa(told-1)+"/"+most, body), "x", []api.Part{piece(0, body)}, api.MaxNum)
	}
}

// TestReadTwoEdits: two pieces of a right one left out, or one laid twice somewhere else.
func TestReadTwoEdits(t *testing.T) {
	for _, x := range short()[:4] {
		b := shown(x.l, x.total, x.bound)
		for from := range len(b) {
			for to := from + 1; to <= len(b); to++ {
				holds(t, []byte(b[:from]+b[to:]), x.bound)
				holds(t, []byte(b[:to]+b[from:]), x.bound)
				holds(t, []byte(b[from:to]), x.bound)
			}
		}
	}
}

// TestReadPieces: all rows of so many pieces.
func TestReadPieces(t *testing.T) {
	pieces := []string{"--x\r\nContent-Range: bytes 0-0/2\r\n\r\n", "--x\r\nContent-Range: bytes 0-1/2\r\n\r\n", "--x\r\nContent-Range: bytes 0-8/9\r\n\r\n", "a", "\r\n", "--x--\r\n"}
	right := 0
	rows := []string{""}
	for range 7 {
		var longer []string
		for _, s := range rows {
			holds(t, []byte(s), "x")
			if _, _, errno := multi.Read([]byte(s), "x"); errno == api.OK {
				right++
			}
			for _, more := range pieces {
				longer = append(longer, s+more)
			}
		}
		rows = longer
	}
	if right < 4 {
		t.Fatalf("only %d may be: too few to tell", right)
	}
}

// TestReadJunk: rows of bytes without an order, and right ones with some of them.
func TestReadJunk(t *testing.T) {
	state := uint32(1)
	next := func(n int) int {
		state = state*1664525 + 1013904223
		return int(state>>8) % n
	}
	tokens := []string{"--x", "--x--", "\r\n", "\r\n\r\n", "Content-Range: ", "bytes ", "0", "1", "9", "-", "/", "*", "a", "x", " ", "\x00", "\xff", far}
	for range 20000 {
		var s strings.Builder
		for range next(30) {
			s.WriteString(tokens[next(len(tokens))])
		}
		holds(t, []byte(s.String()), "x")
	}
	samples := short()
	for range 20000 {
		x := samples[next(len(samples))]
		b := []byte(shown(x.l, x.total, x.bound))
		for range 1 + next(3) {
			b[next(len(b))] = byte(next(256))
		}
		holds(t, b, x.bound)
	}
}

// P8.4.

func TestThereAndBack(t *testing.T) {
	for _, x := range all() {
		b, errno := multi.Put(x.l, x.total, x.bound)
		if errno != api.OK {
			t.Fatalf("Put(%.300v, %d, %q): %d", x.l, x.total, x.bound, errno)
		}
		reads(t, string(b), x.bound, x.l, x.total)
	}
}

// TestThereAndBackOfEach: all lists of one, two or three small spans, in any order, also with bytes in common.
func TestThereAndBackOfEach(t *testing.T) {
	const bytesOf = "\r\n-x"
	var parts []api.Part
	for from := range 4 {
		for to := from + 1; to <= 4; to++ {
			parts = append(parts, piece(from, bytesOf[from:to]))
		}
	}
	lists := [][]api.Part{nil}
	for range 3 {
		var longer [][]api.Part
		for _, l := range lists {
			for _, p := range parts {
				longer = append(longer, append(copied(l), p))
			}
		}
		lists = longer
		for _, l := range lists {
			for _, total := range []int{4, 5, 10, api.MaxNum} {
				x := sample{l, total, "x"}
				puts(t, x)
				b, _ := multi.Put(l, total, "x")
				reads(t, string(b), "x", l, total)
			}
		}
	}
}

// TestThereAndBackWithin: a body that was put itself, again and again.
func TestThereAndBackWithin(t *testing.T) {
	body := "a"
	for range 12 {
		l := []api.Part{piece(3, body), piece(0, body)}
		b, errno := multi.Put(l, 1<<30, "x")
		if errno != api.OK {
			t.Fatal(errno)
		}
		reads(t, string(b), "x", l, 1<<30)
		body = string(b)
	}
}

// TestReadThenPut: what is read is Right, and put as it stood there.
func TestReadThenPut(t *testing.T) {
	found := 0
	for _, x := range short() {
		b := []byte(shown(x.l, x.total, x.bound))
		for at := range b {
			old := b[at]
			for c := range 256 {
				b[at] = byte(c)
				l, total, errno := multi.Read(b, x.bound)
				if errno != api.OK {
					continue
				}
				found++
				if !multi.Right(l, total) {
					t.Fatalf("Read(%q, %q) isn't Right: %v, %d", b, x.bound, l, total)
				}
				if again, errno := multi.Put(l, total, x.bound); !bytes.Equal(again, b) || errno != api.OK {
					t.Fatalf("Read(%q, %q) is put as %q, %d", b, x.bound, again, errno)
				}
			}
			b[at] = old
		}
	}
	if found < 1000 {
		t.Fatalf("only %d were read: too few to tell", found)
	}
}

// P1 to P6.

// TestLong: long bodies, and long rows of bytes that are none.
func TestLong(t *testing.T) {
	const n = 1 << 20
	body := strings.Repeat("\r\n--x--\r\n.......", n/16)
	l := []api.Part{piece(0, body), piece(n, body)}
	b, errno := multi.Put(l, 2*n, "x")
	if errno != api.OK || string(b) != shown(l, 2*n, "x") {
		t.Fatalf("%d bytes, %d", len(b), errno)
	}
	reads(t, string(b), "x", l, 2*n)
	refused(t, string(b[:len(b)-1]), "x", api.ErrForm)
	for _, s := range []string{"-", "--x", "--x--\r\n", "\r\n", "--x\r\nContent-Range: ", "--x\r\nContent-Range: bytes 0-0/1\r\n\r\na\r\n", "0", "\x00"} {
		refused(t, strings.Repeat(s, n/len(s)), "x", api.ErrForm)
		refused(t, "--x\r\nContent-Range: "+strings.Repeat(s, n/len(s)), "x", api.ErrForm)
		refused(t, "--x\r\nContent-Range: bytes 0-"+strings.Repeat(s, n/len(s)), "x", api.ErrForm)
		refused(t, "--x\r\nContent-Range: bytes 0-0/1\r\n\r\na\r\n"+strings.Repeat(s, n/len(s)), "x", api.ErrForm)
	}
	refused(t, string(b), strings.Repeat("x", n), api.ErrArg)
}

// TestNothing: a nil list and an empty one are the same.
func TestNothing(t *testing.T) {
	for _, b := range [][]byte{nil, {}} {
		if l, n, errno := multi.Read(b, "x"); l != nil || n != 0 || errno != api.ErrForm {
			t.Errorf("%v, %d, %d", l, n, errno)
		}
		if l, n, errno := multi.Read(b, ""); l != nil || n != 0 || errno != api.ErrArg {
			t.Errorf("%v, %d, %d", l, n, errno)
		}
		for _, at := range []api.Span{{}, {From: 0, To: 1}, {From: 3, To: 3}} {
			putsNot(t, sample{[]api.Part{{At: at, Body: b}}, 10, "x"})
		}
	}
	for _, l := range [][]api.Part{nil, {}} {
		for _, total := range []int{math.MinInt, -1, 0, 1, api.MaxNum, math.MaxInt} {
			for _, bound := range []string{"", "x", full + "b"} {
				putsNot(t, sample{l, total, bound})
			}
		}
	}
}

// spoil overwrites all of b, and what its memory has behind its length.
func spoil(b []byte) {
	for i := range b[:cap(b)] {
		b[:cap(b)][i] = '!'
	}
}

// spoilAll overwrites all bodies of l, all places, and what its memory has behind its length.
func spoilAll(l []api.Part) {
	for i := range l {
		spoil(l[i].Body)
	}
	for i := range l[:cap(l)] {
		l[:cap(l)][i] = so(77, 88, "!")
	}
}

// TestPutOwnMemory: what Put is given and what it answers share nothing.
func TestPutOwnMemory(t *testing.T) {
	for _, x := range all() {
		given, want := copied(x.l), shown(x.l, x.total, x.bound)
		first, _ := multi.Put(given, x.total, x.bound)
		second, _ := multi.Put(given, x.total, x.bound)
		spoil(first)
		if !alike(given, x.l) {
			t.Fatalf("%.300v: the argument was changed: %.300v", x.l, given)
		}
		spoilAll(given)
		if string(second) != want {
			t.Fatalf("%.300v: the answer shares memory with an answer, or with the argument", x.l)
		}
	}
}

// TestReadOwnMemory: the same of Read; no two bodies share any, and nothing of what was read lies behind what it hands out.
func TestReadOwnMemory(t *testing.T) {
	for _, x := range all() {
		want := shown(x.l, x.total, x.bound)
		given := []byte(want)
		first, _, _ := multi.Read(given, x.bound)
		second, _, _ := multi.Read(given, x.bound)
		for i := range first {
			if behind := first[i].Body[len(first[i].Body):cap(first[i].Body)]; len(bytes.Trim(behind, "\x00")) > 0 {
				t.Fatalf("behind the length of a body: %q", behind)
			}
		}
		for i := range first {
			spoil(first[i].Body)
			if !alike(first[i+1:], x.l[i+1:]) {
				t.Fatalf("%.300v: two bodies share memory", x.l)
			}
		}
		spoilAll(first)
		if string(given) != want {
			t.Fatalf("%.300q: the argument was changed: %.300q", want, given)
		}
		spoil(given)
		if !alike(second, x.l) {
			t.Fatalf("%.300v: the answer shares memory with an answer, or with the argument", x.l)
		}
	}
}

// TestBehindTheLength: what lies behind a list's length is neither read nor written.
func TestBehindTheLength(t *testing.T) {
	for _, x := range short() {
		whole := []byte(shown(x.l, x.total, x.bound) + "--" + x.bound + "--\r\nbehind")
		old := string(whole)
		for n := range len(whole) + 1 {
			holds(t, whole[:n], x.bound)
		}
		if string(whole) != old {
			t.Fatalf("%q was changed: %q", old, whole)
		}
		roomy := append(copied(x.l), piece(0, "behind"))
		for i := range x.l {
			roomy[i].Body = append(roomy[i].Body, "behind"...)[:len(roomy[i].Body)]
		}
		kept := copied(roomy)
		puts(t, sample{roomy[:len(x.l)], x.total, x.bound})
		if !multi.Right(roomy[:len(x.l)], x.total) {
			t.Errorf("%v isn't Right with something behind it", x.l)
		}
		if !alike(roomy, kept) {
			t.Fatalf("%v was changed: %v", kept, roomy)
		}
		for i := range x.l {
			if b := roomy[i].Body; string(b[len(b):len(b)+6]) != "behind" {
				t.Fatalf("behind a body: %q", b[len(b):len(b)+6])
			}
		}
	}
}

// TestSameAnswers: an answer hangs on the arguments alone, not on the calls ahead of it.
func TestSameAnswers(t *testing.T) {
	for range 3 {
		for _, x := range short() {
			refused(t, "junk", x.bound, api.ErrForm)
			refused(t, "junk", "a b", api.ErrArg)
			puts(t, x)
			putsNot(t, sample{x.l, -1, x.bound})
			reads(t, shown(x.l, x.total, x.bound), x.bound, x.l, x.total)
		}
	}
}
