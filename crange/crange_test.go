package crange_test

import (
	"math"
	"math/big"
	"regexp"
	"strconv"
	"strings"
	"testing"

	"spence/api"
	"spence/crange"
)

const (
	near = "4611686018427387902" // one below MaxNum
	most = "4611686018427387903" // MaxNum
	over = "4611686018427387904" // one above it
	far  = "99999999999999999999"
)

// known and unknown are what tells which bytes there are, and what doesn't.
func known(from, to, total int) api.Content {
	return api.Content{Known: true, At: api.Span{From: from, To: to}, Total: total}
}
func unknown(total int) api.Content { return api.Content{Total: total} }

// one is the text of one byte.
func one(c int) string { return string([]byte{byte(c)}) }

// noughts is so many of them.
func noughts(n int) string { return strings.Repeat("0", n) }

// asLetters is s with a letter for each byte, so that a pattern takes bytes one by one.
func asLetters(s string) string {
	var l []rune
	for i := range len(s) {
		l = append(l, rune(s[i]))
	}
	return string(l)
}

// each tells all texts of up to so many of those bytes.
func each(bytes string, most int, tell func(s string)) {
	row := []string{""}
	for range most + 1 {
		var longer []string
		for _, s := range row {
			tell(s)
			for i := range len(bytes) {
				longer = append(longer, s+bytes[i:i+1])
			}
		}
		row = longer
	}
}

// field is the field's grammar, but for what the numbers say.
var field = regexp.MustCompile(`^[bB][yY][tT][eE][sS] (?:([0-9]+)-([0-9]+)|\*)/(?:([0-9]+)|\*)$`)

// expected is what Parse(s) must answer: an independent reading of P7.3, with numbers of any size.
func expected(s string) (api.Content, api.Errno) {
	m := field.FindStringSubmatch(asLetters(s))
	if m == nil {
		return api.Content{}, api.ErrForm
	}
	var n [3]*big.Int
	for i, digits := range m[1:] {
		if digits == "" {
			continue
		}
		n[i], _ = new(big.Int).SetString(digits, 10)
	}
	for _, x := range n {
		if x != nil && x.Cmp(big.NewInt(api.MaxNum)) > 0 {
			return api.Content{}, api.ErrOver
		}
	}
	first, last, total := n[0], n[1], n[2]
	switch {
	case first == nil && total == nil:
		return api.Content{}, api.ErrForm
	case first == nil:
		return unknown(int(total.Int64())), api.OK
	case first.Cmp(last) > 0, last.Cmp(big.NewInt(api.MaxNum)) == 0:
		return api.Content{}, api.ErrForm
	case total == nil:
		return known(int(first.Int64()), int(last.Int64())+1, -1), api.OK
	case last.Cmp(total) >= 0:
		return api.Content{}, api.ErrForm
	}
	return known(int(first.Int64()), int(last.Int64())+1, int(total.Int64())), api.OK
}

// mayBe is an independent reading of P7.1.
func mayBe(c api.Content) bool {
	if c.Total < -1 || c.Total > api.MaxNum {
		return false
	}
	if !c.Known {
		return c.At.From == 0 && c.At.To == 0 && c.Total != -1
	}
	if c.At.From < 0 || c.At.To > api.MaxNum || c.At.From >= c.At.To {
		return false
	}
	return c.Total == -1 || c.Total >= c.At.To
}

// shown is an independent reading of P7.2.
func shown(c api.Content) string {
	if !mayBe(c) {
		return ""
	}
	s := "bytes *"
	if c.Known {
		s = "bytes " + strconv.Itoa(c.At.From) + "-" + strconv.Itoa(c.At.To-1)
	}
	if c.Total == -1 {
		return s + "/*"
	}
	return s + "/" + strconv.Itoa(c.Total)
}

// ints are the numbers at the edges.
func ints() []int {
	return []int{
		math.MinInt, math.MinInt + 1, -api.MaxNum, -5, -2, -1, 0, 1, 2, 4, 5, 6, 100,
		api.MaxNum - 1, api.MaxNum, api.MaxNum + 1, math.MaxInt - 1, math.MaxInt,
	}
}

// all is everything whose numbers are at the edges.
func all() []api.Content {
	var l []api.Content
	for _, from := range ints() {
		for _, to := range ints() {
			for _, total := range ints() {
				c := known(from, to, total)
				l = append(l, c)
				c.Known = false
				l = append(l, c)
			}
		}
	}
	return l
}

// small is everything whose numbers are from -2 to 6.
func small() []api.Content {
	var l []api.Content
	for from := -2; from <= 6; from++ {
		for to := -2; to <= 6; to++ {
			for total := -2; total <= 6; total++ {
				c := known(from, to, total)
				l = append(l, c)
				c.Known = false
				l = append(l, c)
			}
		}
	}
	return l
}

// reads holds that s is read as that.
func reads(t *testing.T, s string, want api.Content) {
	t.Helper()
	if c, errno := crange.Parse(s); c != want || errno != api.OK {
		t.Errorf("Parse(%q) = %+v, %d, want %+v, OK", s, c, errno, want)
	}
}

// refused holds that s is refused with that error, and nothing beside it.
func refused(t *testing.T, s string, want api.Errno) {
	t.Helper()
	if c, errno := crange.Parse(s); c != (api.Content{}) || errno != want {
		t.Errorf("Parse(%q) = %+v, %d, want nothing, %d", s, c, errno, want)
	}
}

// holds holds s against the independent reading.
func holds(t *testing.T, s string) {
	t.Helper()
	want, wantErrno := expected(s)
	if c, errno := crange.Parse(s); c != want || errno != wantErrno {
		t.Fatalf("Parse(%q) = %+v, %d, want %+v, %d", s, c, errno, want, wantErrno)
	}
}

// P7.1.

func TestRight(t *testing.T) {
	for _, x := range []struct {
		name string
		c    api.Content
		want bool
	}{
		{"zero", api.Content{}, true},
		{"ordinary", known(0, 5, 10), true},
		{"in the midst", known(3, 5, 10), true},
		{"its total untold", known(3, 5, -1), true},
		{"one byte of one", known(0, 1, 1), true},
		{"one byte, total untold", known(0, 1, -1), true},
		{"just to the end", known(3, 5, 5), true},
		{"one beyond the end", known(3, 5, 4), false},
		{"just behind the end", known(5, 6, 5), false},
		{"of none", known(0, 1, 0), false},
		{"no bytes at 0", known(0, 0, 10), false},
		{"no bytes at 0 of none", known(0, 0, 0), false},
		{"no bytes, total untold", known(0, 0, -1), false},
		{"no bytes at 5", known(5, 5, 10), false},
		{"the wrong way round", known(6, 5, 10), false},
		{"below 0", known(-1, 5, 10), false},
		{"below 0 alone", known(-2, -1, 10), false},
		{"below 0, total untold", known(-1, 5, -1), false},
		{"to MaxNum", known(0, api.MaxNum, api.MaxNum), true},
		{"to MaxNum, total untold", known(0, api.MaxNum, -1), true},
		{"to MaxNum of one less", known(0, api.MaxNum, api.MaxNum-1), false},
		{"the last byte of all", known(api.MaxNum-1, api.MaxNum, api.MaxNum), true},
		{"at MaxNum", known(api.MaxNum, api.MaxNum+1, -1), false},
		{"to one above MaxNum", known(0, api.MaxNum+1, -1), false},
		{"to one above MaxNum of as many", known(0, api.MaxNum+1, api.MaxNum+1), false},
		{"to the greatest int", known(0, math.MaxInt, -1), false},
		{"all ints", known(math.MinInt, math.MaxInt, -1), false},
		{"total -2", known(0, 5, -2), false},
		{"the least total", known(0, 5, math.MinInt), false},
		{"total MaxNum", known(0, 5, api.MaxNum), true},
		{"total one above MaxNum", known(0, 5, api.MaxNum+1), false},
		{"the greatest total", known(0, 5, math.MaxInt), false},
		{"unknown of 7", unknown(7), true},
		{"unknown of 1", unknown(1), true},
		{"unknown of MaxNum", unknown(api.MaxNum), true},
		{"unknown of one above MaxNum", unknown(api.MaxNum + 1), false},
		{"unknown of the greatest int", unknown(math.MaxInt), false},
		{"unknown, total untold", unknown(-1), false},
		{"unknown of -2", unknown(-2), false},
		{"unknown of the least int", unknown(math.MinInt), false},
		{"unknown with a span", api.Content{At: api.Span{From: 0, To: 5}, Total: 10}, false},
		{"unknown with a span, total untold", api.Content{At: api.Span{From: 0, To: 5}, Total: -1}, false},
		{"unknown with From alone", api.Content{At: api.Span{From: 1}, Total: 10}, false},
		{"unknown with To alone", api.Content{At: api.Span{To: 1}, Total: 10}, false},
		{"unknown with no bytes at 5", api.Content{At: api.Span{From: 5, To: 5}, Total: 10}, false},
		{"unknown with From below 0", api.Content{At: api.Span{From: -1}, Total: 10}, false},
		{"unknown with To below 0", api.Content{At: api.Span{To: -1}, Total: 10}, false},
	} {
		if got := crange.Right(x.c); got != x.want {
			t.Errorf("%s: Right(%+v) = %t, want %t", x.name, x.c, got, x.want)
		}
	}
}

func TestRightAll(t *testing.T) {
	for _, c := range append(all(), small()...) {
		if got, want := crange.Right(c), mayBe(c); got != want {
			t.Fatalf("Right(%+v) = %t, want %t", c, got, want)
		}
	}
}

// P7.2.

func TestPrint(t *testing.T) {
	for _, x := range []struct {
		c    api.Content
		want string
	}{
		{known(0, 5, 10), "bytes 0-4/10"},
		{known(3, 5, 10), "bytes 3-4/10"},
		{known(9, 10, 10), "bytes 9-9/10"},
		{known(0, 1, 1), "bytes 0-0/1"},
		{known(0, 1, -1), "bytes 0-0/*"},
		{known(0, 5, -1), "bytes 0-4/*"},
		{known(10, 100, 100), "bytes 10-99/100"},
		{known(0, 5, api.MaxNum), "bytes 0-4/" + most},
		{known(0, api.MaxNum, api.MaxNum), "bytes 0-" + near + "/" + most},
		{known(api.MaxNum-1, api.MaxNum, -1), "bytes " + near + "-" + near + "/*"},
		{unknown(0), "bytes */0"},
		{unknown(7), "bytes */7"},
		{unknown(api.MaxNum), "bytes */" + most},
		{known(0, 5, 4), ""},
		{known(0, 5, -2), ""},
		{known(5, 5, 10), ""},
		{known(6, 5, 10), ""},
		{known(-1, 5, 10), ""},
		{known(0, api.MaxNum+1, -1), ""},
		{known(0, 5, api.MaxNum+1), ""},
		{unknown(-1), ""},
		{unknown(-2), ""},
		{unknown(api.MaxNum + 1), ""},
		{api.Content{At: api.Span{From: 0, To: 5}, Total: 10}, ""},
	} {
		if got := crange.Print(x.c); got != x.want {
			t.Errorf("Print(%+v) = %q, want %q", x.c, got, x.want)
		}
	}
}

func TestPrintAll(t *testing.T) {
	for _, c := range append(all(), small()...) {
		if got, want := crange.Print(c), shown(c); got != want {
			t.Fatalf("Print(%+v) = %q, want %q", c, got, want)
		}
	}
}

func TestOf(t *testing.T) {
	for _, x := range []struct {
		s     api.Span
		total int
		want  string
	}{
		{api.Span{From: 0, To: 5}, 10, "bytes 0-4/10"},
		{api.Span{From: 0, To: 5}, 5, "bytes 0-4/5"},
		{api.Span{From: 0, To: 5}, 4, ""},
		{api.Span{From: 0, To: 5}, 0, ""},
		{api.Span{From: 0, To: 5}, -1, "bytes 0-4/*"},
		{api.Span{From: 0, To: 5}, -2, ""},
		{api.Span{From: 0, To: 1}, 1, "bytes 0-0/1"},
		{api.Span{}, 7, ""},
		{api.Span{}, 0, ""},
		{api.Span{}, -1, ""},
		{api.Span{From: 3, To: 3}, 7, ""},
		{api.Span{From: 4, To: 3}, 7, ""},
		{api.Span{From: -1, To: 3}, 7, ""},
		{api.Span{From: 0, To: api.MaxNum}, api.MaxNum, "bytes 0-" + near + "/" + most},
		{api.Span{From: 0, To: api.MaxNum + 1}, -1, ""},
		{api.Span{From: 0, To: 5}, api.MaxNum + 1, ""},
	} {
		if got := crange.Of(x.s, x.total); got != x.want {
			t.Errorf("Of(%+v, %d) = %q, want %q", x.s, x.total, got, x.want)
		}
	}
}

// What Of is given is Known, also a zero span.
func TestOfAll(t *testing.T) {
	for _, c := range append(all(), small()...) {
		c.Known = true
		if got, want := crange.Of(c.At, c.Total), shown(c); got != want {
			t.Fatalf("Of(%+v, %d) = %q, want %q", c.At, c.Total, got, want)
		}
	}
}

// P7.3.

func TestParse(t *testing.T) {
	reads(t, "bytes 0-4/10", known(0, 5, 10))
	reads(t, "bytes 3-4/10", known(3, 5, 10))
	reads(t, "bytes 9-9/10", known(9, 10, 10))
	reads(t, "bytes 0-4/5", known(0, 5, 5))
	reads(t, "bytes 0-0/1", known(0, 1, 1))
	reads(t, "bytes 0-0/*", known(0, 1, -1))
	reads(t, "bytes 0-4/*", known(0, 5, -1))
	reads(t, "bytes 10-99/100", known(10, 100, 100))
	reads(t, "bytes */0", unknown(0))
	reads(t, "bytes */1", unknown(1))
	reads(t, "bytes */7", unknown(7))
	reads(t, "bytes */"+most, unknown(api.MaxNum))
	reads(t, "bytes 0-4/"+most, known(0, 5, api.MaxNum))
	reads(t, "bytes 0-"+near+"/"+most, known(0, api.MaxNum, api.MaxNum))
	reads(t, "bytes 0-"+near+"/*", known(0, api.MaxNum, -1))
	reads(t, "bytes "+near+"-"+near+"/*", known(api.MaxNum-1, api.MaxNum, -1))
	reads(t, "bytes "+near+"-"+near+"/"+most, known(api.MaxNum-1, api.MaxNum, api.MaxNum))
}

func TestParseNoughts(t *testing.T) {
	for _, n := range []int{1, 2, 18, 19, 20, 64, 1000} {
		ahead := noughts(n)
		reads(t, "bytes "+ahead+"3-4/10", known(3, 5, 10))
		reads(t, "bytes 3-"+ahead+"4/10", known(3, 5, 10))
		reads(t, "bytes 3-4/"+ahead+"10", known(3, 5, 10))
		reads(t, "bytes "+ahead+"3-"+ahead+"4/"+ahead+"10", known(3, 5, 10))
		reads(t, "bytes "+ahead+"-"+ahead+"/"+ahead+"1", known(0, 1, 1))
		reads(t, "bytes */"+ahead, unknown(0))
		reads(t, "bytes */"+ahead+"7", unknown(7))
		reads(t, "bytes 0-4/"+ahead+most, known(0, 5, api.MaxNum))
		reads(t, "bytes "+ahead+near+"-"+ahead+near+"/*", known(api.MaxNum-1, api.MaxNum, -1))
		refused(t, "bytes "+ahead+over+"-4/10", api.ErrOver)
		refused(t, "bytes 0-"+ahead+over+"/10", api.ErrOver)
		refused(t, "bytes 0-4/"+ahead+over, api.ErrOver)
		refused(t, "bytes 0-4/"+ahead, api.ErrForm)
	}
}

func TestParseUnit(t *testing.T) {
	for sizes := range 1 << len("bytes") {
		b := []byte("bytes")
		for i := range b {
			if sizes>>i&1 == 1 {
				b[i] -= 'a' - 'A'
			}
		}
		reads(t, string(b)+" 0-4/10", known(0, 5, 10))
		reads(t, string(b)+" */7", unknown(7))
	}
	for _, unit := range []string{
		"", "b", "byte", "bytess", "bytesbytes", "bits", "octets", "items", "none", "*", "0", "bytes=", "bytes:", "bytes,", "bytes\t", "bytes\n",
		"\"bytes\"", "byte\u017f", "b\u00ffytes", "\x00bytes", "bytes\x00", "setyb", "bytes/", "bytes-", "bytes/5",
	} {
		refused(t, unit+" 0-4/10", api.ErrForm)
		refused(t, unit+" */7", api.ErrForm)
		refused(t, unit+" "+far+"-4/10", api.ErrForm)
	}
}

func TestParseBlank(t *testing.T) {
	for _, rest := range []string{"0-4/10", "0-4/*", "*/7"} {
		for c := range 256 {
			if c != ' ' {
				refused(t, "bytes"+one(c)+rest, api.ErrForm)
			}
			refused(t, "bytes "+one(' ')+rest, api.ErrForm)
		}
		refused(t, "bytes"+rest, api.ErrForm)
		for _, blanks := range []string{"  ", "   ", " \t", "\t ", "\t", "\t\t", "\n", "\r\n", " \r\n ", "\v", "\f", "\u00a0", "\u2003", "%20", "+"} {
			refused(t, "bytes"+blanks+rest, api.ErrForm)
		}
	}
	whole := "bytes 3-4/10"
	for at := range len(whole) + 1 {
		for _, blank := range []string{" ", "\t", "\n", "\r", "\x00", "\u00a0"} {
			refused(t, whole[:at]+blank+whole[at:], api.ErrForm)
		}
	}
}

func TestParseForm(t *testing.T) {
	for _, s := range []string{
		"", " ", "bytes", "bytes ", "bytes  ", "bytes /", "bytes -", "bytes *", "bytes -/", "bytes */", "bytes /*", "bytes -/*", "bytes -/10", "bytes /10",
		"0-4/10", " 0-4/10", "*/10", "bytes=0-4/10", "bytes=0-4",
		"bytes 0-4", "bytes 0-4/", "bytes 0-/10", "bytes -4/10", "bytes 4/10", "bytes 04/10", "bytes 0/10",
		"bytes 0-4-5/10", "bytes 0--4/10", "bytes -0-4/10", "bytes 0-4-/10", "bytes --/10", "bytes 0-4/-10", "bytes 0-4/-1", "bytes */-1", "bytes 0-4/1-0",
		"bytes 0-4//10", "bytes /0-4/10", "bytes 0-4/10/", "bytes 0-4/10/20", "bytes 0/4-10", "bytes 0-/4/10", "bytes */*/", "bytes //", "bytes *//7", "bytes 0/-4/10",
		"bytes +0-4/10", "bytes 0-+4/10", "bytes 0-4/+10", "bytes */+7",
		"bytes a-4/10", "bytes 0-a/10", "bytes 0-4/a", "bytes 0x0-4/10", "bytes 0-0x4/10", "bytes 0-4/0xa", "bytes 0-4/10a", "bytes 0a-4/10", "bytes 0-4a/10", "bytes */a", "bytes */7a",
		"bytes 0.0-4/10", "bytes 0-4.0/10", "bytes 0-4/10.0", "bytes 0_0-4/10", "bytes 1e0-4/10", "bytes 0-4/1e1", "bytes \u0660-4/10", "bytes 0-\u0664/10", "bytes \u00bd-4/10",
		"bytes **/7", "bytes *0/7", "bytes 0*/7", "bytes *-4/7", "bytes 0-*/7", "bytes *-*/7", "bytes 0-4*/7", "bytes *0-4/7", "bytes */7*", "bytes */*7", "bytes */**", "bytes 0-4/**", "bytes 0-4/*7", "bytes 0-4/7*", "bytes 0-4/* ", "bytes * /7", "bytes -*/7", "bytes *-/7",
		"bytes 0-4/10,", "bytes 0-4/10;", "bytes 0-4,5-6/10", "bytes 0-4/10, 5-6/10", "bytes 0-4/10\x00", "\x00bytes 0-4/10", "bytes 0-4\\10", "bytes 0:4/10", "bytes 0\u20134/10", "bytes 0-4\u204410", "bytes \u2217/7",
		"\"bytes 0-4/10\"", "bytes \"0-4/10\"", "Content-Range: bytes 0-4/10",
	} {
		refused(t, s, api.ErrForm)
	}
}

func TestParseOver(t *testing.T) {
	for _, n := range []string{over, far, "9223372036854775807", "9223372036854775808", "18446744073709551616", "1" + noughts(100)} {
		for _, s := range []string{
			"bytes " + n + "-" + n + "/*", "bytes 0-" + n + "/*", "bytes */" + n, "bytes 0-4/" + n, "bytes 0-" + n + "/" + n, "bytes " + n + "-" + n + "/" + n,
		} {
			refused(t, s, api.ErrOver)
		}
	}
}

func TestParseNotRight(t *testing.T) {
	for _, s := range []string{
		"bytes */*",
		"bytes 4-0/9", "bytes 5-4/9", "bytes 5-4/*", "bytes 1-0/1", "bytes 1-0/*",
		"bytes 0-4/4", "bytes 0-4/0", "bytes 0-0/0", "bytes 5-5/5", "bytes 9-10/9",
		"bytes 0-" + most + "/*", "bytes 0-" + most + "/" + most, "bytes " + most + "-" + most + "/*", "bytes " + most + "-" + most + "/" + most,
		"bytes 0-" + near + "/" + near, "bytes " + near + "-0/*", "bytes " + most + "-0/*", "bytes " + most + "-0/1",
	} {
		refused(t, s, api.ErrForm)
	}
}

// The first of ErrForm (not so), ErrOver, ErrForm (not Right).
func TestParseOrder(t *testing.T) {
	for _, n := range []string{over, far} {
		for _, s := range []string{
			"bytes " + n + "-x/10", "bytes x-" + n + "/10", "bytes " + n + "-4/x", "bytes 0-" + n + "/x", "bytes x-4/" + n, "bytes 0-x/" + n, "bytes */" + n + "x", "bytes " + n + "-" + n + "/x",
			"bytes " + n + "-/10", "bytes -" + n + "/10", "bytes " + n + "-4/", "bytes 0-" + n + "/", "bytes -4/" + n, "bytes 0-/" + n,
			"bytes " + n + "/10", "bytes " + n, "bytes " + n + "-4", "bytes 0-" + n, "bytes 0/" + n, "bytes " + n + "/" + n,
			"bytes 0-4/" + n + "/", "bytes 0-4-5/" + n, "bytes " + n + "-4 /10", "bytes  " + n + "-4/10", "bytes\t" + n + "-4/10", "bytes*/" + n, "items */" + n, "bytes **/" + n, "bytes 0-*/" + n,
			"bytes 4-0x/" + n, "bytes 4-0/" + n + "x",
		} {
			refused(t, s, api.ErrForm)
		}
		for _, s := range []string{
			"bytes " + n + "-4/10", "bytes " + n + "-4/*", "bytes " + n + "-0/0", "bytes 0-" + n + "/4", "bytes 0-" + n + "/0",
			"bytes 4-0/" + n, "bytes 1-0/" + n, "bytes " + n + "-" + n + "/4", "bytes " + most + "-" + n + "/4", "bytes " + n + "-" + most + "/4",
			"bytes 0-" + most + "/" + n, "bytes " + most + "-0/" + n,
		} {
			refused(t, s, api.ErrOver)
		}
	}
}

func TestParseEachByte(t *testing.T) {
	for _, s := range []string{"bytes 3-4/10", "bytes 0-4/*", "bytes */7", "BYTES 0-0/1", "bytes */*", "bytes " + over + "-4/10", "bytes 5-4/" + far} {
		for at := range len(s) + 1 {
			holds(t, s[:at])
			holds(t, s[at:])
			for c := range 256 {
				holds(t, s[:at]+one(c)+s[at:])
				if at < len(s) {
					holds(t, s[:at]+one(c)+s[at+1:])
				}
			}
			for from := range at {
				holds(t, s[:from]+s[at:])
				holds(t, s[:at]+s[from:])
			}
		}
	}
}

func TestParseAgainstPattern(t *testing.T) {
	each("019-*/ ", 6, func(s string) { holds(t, "bytes "+s) })
	each("bB */1", 5, func(s string) { holds(t, s) })
	numbers := []string{"", "0", "1", "4", "5", "10", "007", near, most, over, far, "0" + most, "00" + over, "-1", "+1", "x", "*", " ", "1 "}
	for _, first := range numbers {
		for _, last := range numbers {
			for _, total := range numbers {
				holds(t, "bytes "+first+"-"+last+"/"+total)
				holds(t, "bytes "+first+last+"/"+total)
			}
		}
	}
}

// P7.4.

func TestThereAndBack(t *testing.T) {
	right := 0
	for _, c := range append(all(), small()...) {
		if !crange.Right(c) {
			continue
		}
		right++
		if back, errno := crange.Parse(crange.Print(c)); back != c || errno != api.OK {
			t.Fatalf("Parse(Print(%+v)) = %+v, %d, want it again", c, back, errno)
		}
	}
	if right < 200 {
		t.Fatalf("only %d may be: too few to tell", right)
	}
	for from := range 12 {
		for to := from + 1; to < 13; to++ {
			for total := to; total < 14; total++ {
				reads(t, crange.Of(api.Span{From: from, To: to}, total), known(from, to, total))
			}
			reads(t, crange.Of(api.Span{From: from, To: to}, -1), known(from, to, -1))
		}
		reads(t, crange.Print(unknown(from)), unknown(from))
	}
}

// One that isn't Right is printed as nothing, which is not of the form.
func TestNotBack(t *testing.T) {
	for _, c := range append(all(), small()...) {
		if mayBe(c) {
			continue
		}
		if back, errno := crange.Parse(crange.Print(c)); back != (api.Content{}) || errno != api.ErrForm {
			t.Fatalf("Parse(Print(%+v)) = %+v, %d, want ErrForm", c, back, errno)
		}
	}
}

// What is read is Right, and printed as it is written most shortly.
func TestParseThenPrint(t *testing.T) {
	each("01-*/", 7, func(s string) {
		c, errno := crange.Parse("bytes " + s)
		if errno != api.OK {
			return
		}
		if !crange.Right(c) {
			t.Fatalf("Parse(%q) = %+v, which isn't Right", "bytes "+s, c)
		}
		again, errno := crange.Parse(crange.Print(c))
		if again != c || errno != api.OK || len(crange.Print(c)) > len("bytes "+s) {
			t.Fatalf("%q is printed as %q", "bytes "+s, crange.Print(c))
		}
	})
	for s, want := range map[string]string{
		"BYTES 00-04/010":    "bytes 0-4/10",
		"Bytes 0-0/*":        "bytes 0-0/*",
		"bYTES */007":        "bytes */7",
		"bytes */000":        "bytes */0",
		"bytes 0-4/0" + most: "bytes 0-4/" + most,
	} {
		c, _ := crange.Parse(s)
		if got := crange.Print(c); got != want {
			t.Errorf("%q is printed as %q, want %q", s, got, want)
		}
	}
}

// P1 and P3.

func TestLongTexts(t *testing.T) {
	const n = 1 << 20
	reads(t, "bytes "+noughts(n)+"3-"+noughts(n)+"4/"+noughts(n)+"10", known(3, 5, 10))
	nines := strings.Repeat("9", n)
	refused(t, "bytes "+nines+"-"+nines+"/"+nines, api.ErrOver)
	refused(t, "bytes */"+nines, api.ErrOver)
	refused(t, "bytes */"+nines+"x", api.ErrForm)
	for _, piece := range []string{" ", "/", "-", "*", "0", "b", "bytes ", "bytes 0-4/10", "\x00", "\xff", "*/", "0-"} {
		long := strings.Repeat(piece, n/len(piece))
		refused(t, long, api.ErrForm)
		refused(t, "bytes "+long, api.ErrForm)
	}
}

func TestSameAnswers(t *testing.T) {
	for _, s := range []string{"bytes 0-4/10", "bytes */7", "bytes 0-4/4", "bytes " + far + "-4/10", "bytes x-4/" + far, "", "BYTES 00-04/*"} {
		first, errno := crange.Parse(s)
		for range 3 {
			crange.Parse("bytes x-" + far + "/*")
			if c, again := crange.Parse(s); c != first || again != errno {
				t.Errorf("Parse(%q) = %+v, %d, then %+v, %d", s, first, errno, c, again)
			}
		}
	}
	for _, c := range small() {
		if crange.Print(c) != crange.Print(c) || crange.Right(c) != crange.Right(c) || crange.Of(c.At, c.Total) != crange.Of(c.At, c.Total) {
			t.Fatalf("%+v: two answers", c)
		}
	}
}
