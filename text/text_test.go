package text_test

import (
	"regexp"
	"slices"
	"strings"
	"testing"

	"spence/text"
)

// tokenBytes are all bytes that may stand in a token, written out.
const tokenBytes = "!#$%&'*+-.0123456789ABCDEFGHIJKLMNOPQRSTUVWXYZ^_`abcdefghijklmnopqrstuvwxyz|~"

// one is the text of one byte.
func one(c int) string { return string([]byte{byte(c)}) }

// each tells all texts of up to so many of those bytes.
func each(bytes string, most int, tell func(s string)) {
	row := []string{""}
	for range most + 1 {
		var longer []string
		for _, s := range row {
			tell(s)
			for i := range len(bytes) {
				longer = append(longer, s+bytes[i:i+1])
			}
		}
		row = longer
	}
}

// parts are some texts of many kinds: ordinary ones, and the edges.
func parts() []string {
	l := []string{
		"", " ", "\t", " \t ", "a", " a", "a ", "a b", "bytes", "BYTES", "Bytes=0-4, -5", "a,b", ",", ",,", " , ", "W/\"x\"",
		"\x00", "\xff", "\x80 \x80", "é", " é ", "\u00a0a\u00a0", "\u2003a\u2003", "\r\n", " \r\n", "\v a \f", "\u212a", "ſ", "İ",
		strings.Repeat(" ", 5000), strings.Repeat("a ", 5000), strings.Repeat("\t", 300) + "a" + strings.Repeat(" ", 300),
	}
	for c := range 256 {
		l = append(l, one(c), " "+one(c)+"\t", one(c)+" "+one(c))
	}
	return l
}

func TestTrimRight(t *testing.T) {
	for _, x := range []struct{ s, trim, right string }{
		{"", "", ""},
		{" ", "", ""},
		{"\t", "", ""},
		{" \t\t ", "", ""},
		{"a", "a", "a"},
		{" a", "a", " a"},
		{"a ", "a", "a"},
		{"\ta\t", "a", "\ta"},
		{" \ta b \t", "a b", " \ta b"},
		{"a \t b", "a \t b", "a \t b"},
		{"  ,  ", ",", "  ,"},
		{"\na\n", "\na\n", "\na\n"},
		{" \r\n ", "\r\n", " \r\n"},
		{"\va\f", "\va\f", "\va\f"},
		{"\x00 \x00", "\x00 \x00", "\x00 \x00"},
		{"\u00a0a\u00a0", "\u00a0a\u00a0", "\u00a0a\u00a0"}, // its bytes are 194 and 160
		{"\u2003a\u3000", "\u2003a\u3000", "\u2003a\u3000"},
		{" \xff ", "\xff", " \xff"},
		{"\x85\xa0", "\x85\xa0", "\x85\xa0"},
	} {
		if got := text.Trim(x.s); got != x.trim {
			t.Errorf("Trim(%q): %q; want %q", x.s, got, x.trim)
		}
		if got := text.Right(x.s); got != x.right {
			t.Errorf("Right(%q): %q; want %q", x.s, got, x.right)
		}
	}
}

func TestBlank(t *testing.T) {
	for s, want := range map[string]bool{
		"": true, " ": true, "\t": true, " \t \t": true, strings.Repeat(" \t", 999): true,
		"a": false, " a": false, "a ": false, " a ": false, ",": false, " , ": false, "0": false, "\n": false, " \r\n": false,
		"\v": false, "\f": false, "\x00": false, "\u00a0": false, "\xa0": false, "\x85": false, "\xff": false, "\u3000": false,
		strings.Repeat(" ", 999) + "x": false, "x" + strings.Repeat(" ", 999): false,
	} {
		if got := text.Blank(s); got != want {
			t.Errorf("Blank(%.20q): %v", s, got)
		}
	}
}

// TestBlanksEachByte: 32 and 9 are blanks, and no other byte is, at each place where it counts.
func TestBlanksEachByte(t *testing.T) {
	for c := range 256 {
		b, blank := one(c), c == 32 || c == 9
		trim, right := b, " "+b
		if blank {
			trim, right = "", ""
		}
		if got := text.Trim(" " + b + "\t"); got != trim {
			t.Errorf("Trim of %q between blanks: %q", b, got)
		}
		if got := text.Right(" " + b + "\t"); got != right {
			t.Errorf("Right of %q between blanks: %q", b, got)
		}
		for _, s := range []string{b, b + " ", "\t" + b, " " + b + " "} {
			if got := text.Blank(s); got != blank {
				t.Errorf("Blank(%q): %v", s, got)
			}
		}
		if l, is := text.List("x," + b); !is || len(l) == 1 != (blank || c == ',') {
			t.Errorf("List(x,%q): %q, %v", b, l, is)
		}
	}
}

// TestBlanksAgainstLibrary holds the calls against the library's own that cut sets of bytes away.
func TestBlanksAgainstLibrary(t *testing.T) {
	hold := func(s string) {
		if got, want := text.Trim(s), strings.Trim(s, " \t"); got != want {
			t.Errorf("Trim(%.20q): %.20q; want %.20q", s, got, want)
		}
		if got, want := text.Right(s), strings.TrimRight(s, " \t"); got != want {
			t.Errorf("Right(%.20q): %.20q; want %.20q", s, got, want)
		}
		if got, want := text.Blank(s), strings.Trim(s, " \t") == ""; got != want {
			t.Errorf("Blank(%.20q): %v", s, got)
		}
	}
	each(" \ta\n\xa0", 5, hold)
	for _, s := range parts() {
		hold(s)
	}
}

func TestToken(t *testing.T) {
	for s, want := range map[string]bool{
		"a": true, "Z": true, "0": true, "bytes": true, "If-Range": true, "a-b!~": true, "x1_Y2.z3": true, "~": true, "`": true,
		tokenBytes: true, strings.Repeat(tokenBytes, 50): true,
		"": false, " ": false, "\t": false, "a b": false, " a": false, "a ": false, "a=": false, "=a": false, "a,b": false,
		"a\"b": false, "(a)": false, "a/b": false, "a:b": false, "a;b": false, "<a>": false, "a?": false, "a@b": false,
		"[a]": false, "a\\b": false, "{a}": false, "a\x7f": false, "a\x00": false, "\x00": false, "é": false, "aé": false,
		"\xc1": false, "ª": false, "²": false, "\u212a": false, "１": false, "\r\n": false,
		tokenBytes + " ": false, " " + tokenBytes: false, tokenBytes + "\x00" + tokenBytes: false,
	} {
		if got := text.Token(s); got != want {
			t.Errorf("Token(%.20q): %v", s, got)
		}
	}
}

// TestTokenEachByte: each byte alone, and at the start, in the midst and at the end of a token.
func TestTokenEachByte(t *testing.T) {
	for c := range 256 {
		b := one(c)
		want := strings.Contains(tokenBytes, b)
		for _, s := range []string{b, b + "a", "a" + b, "a" + b + "a", b + b} {
			if got := text.Token(s); got != want {
				t.Errorf("Token(%q): %v", s, got)
			}
		}
	}
}

// TestTokenEdges: the bytes just outside of each row of bytes that may stand in a token.
func TestTokenEdges(t *testing.T) {
	for _, s := range []string{"\x20", "\"", "(", ")", ",", "/", ":", "@", "[", "]", "{", "}", "\x7f", "\x80"} {
		if text.Token(s) {
			t.Errorf("Token(%q)", s)
		}
	}
	for _, s := range []string{"!", "#", "'", "*", "+", "-", ".", "0", "9", "A", "Z", "^", "_", "`", "a", "z", "|", "~"} {
		if !text.Token(s) {
			t.Errorf("not Token(%q)", s)
		}
	}
}

func TestLower(t *testing.T) {
	for s, want := range map[string]string{
		"": "", "a": "a", "A": "a", "Z": "z", "AbZ": "abz", "bytes": "bytes", "BYTES": "bytes", "If-Range": "if-range",
		"ABCDEFGHIJKLMNOPQRSTUVWXYZ": "abcdefghijklmnopqrstuvwxyz",
		"@[`{":                       "@[`{",
		"A1 B2\tC3,":                 "a1 b2\tc3,",
		"\x00A\xffB":                 "\x00a\xffb",
		"ÀÉ\u212a":                   "ÀÉ\u212a", // letters of more than one byte stay as they are
		"K\u212aſİ":                  "k\u212aſİ",
		"\xc0\xdeA":                  "\xc0\xdea",
		strings.Repeat("aB", 3000):   strings.Repeat("ab", 3000),
	} {
		if got := text.Lower(s); got != want {
			t.Errorf("Lower(%.20q): %.20q; want %.20q", s, got, want)
		}
	}
}

func TestLowerEachByte(t *testing.T) {
	for c := range 256 {
		want := c
		if 65 <= c && c <= 90 {
			want = c + 32
		}
		if got := text.Lower("Q" + one(c) + "q"); got != "q"+one(want)+"q" {
			t.Errorf("Lower(Q%qq): %q", one(c), got)
		}
		if got := text.Lower(one(c)); got != one(want) {
			t.Errorf("Lower(%q): %q", one(c), got)
		}
	}
}

func TestFold(t *testing.T) {
	for _, x := range []struct {
		a, b string
		want bool
	}{
		{"", "", true},
		{"a", "A", true},
		{"BYTES", "bytes", true},
		{"ByTeS", "bYtEs", true},
		{"If-Range", "if-rANGE", true},
		{" a\t", " A\t", true},
		{"\xffA", "\xffa", true},
		{"é", "é", true},
		{"", "a", false},
		{"a", "", false},
		{"a", "b", false},
		{"a", "aa", false},
		{"A ", "a", false}, // blanks count
		{" A", "a", false},
		{"bytes", "byte", false},
		{"é", "É", false},
		{"k", "\u212a", false}, // the sign of a kelvin
		{"s", "ſ", false},
		{"@", "`", false}, // 32 apart, but no letters
		{"[", "{", false},
		{"\x00", " ", false},
		{"\x12", "2", false},
		{"\xc1", "\xe1", false},
	} {
		if text.Fold(x.a, x.b) != x.want || text.Fold(x.b, x.a) != x.want {
			t.Errorf("Fold(%q, %q): want %v", x.a, x.b, x.want)
		}
	}
}

// TestFoldEachByte: of all bytes two and two, those fold together that are the same, or one letter in both sizes.
func TestFoldEachByte(t *testing.T) {
	letter := func(c int) bool { return 'a' <= c && c <= 'z' }
	for a := range 256 {
		for b := range 256 {
			want := a == b || a+32 == b && letter(b) || b+32 == a && letter(a)
			if text.Fold("x"+one(a), "X"+one(b)) != want {
				t.Errorf("Fold of %q and %q: want %v", one(a), one(b), want)
			}
		}
	}
}

func TestFoldIsLower(t *testing.T) {
	for _, a := range parts()[:40] {
		for _, b := range append(parts()[:40], strings.ToUpper(a), text.Lower(a)) {
			if got, want := text.Fold(a, b), text.Lower(a) == text.Lower(b); got != want {
				t.Errorf("Fold(%.20q, %.20q): %v", a, b, got)
			}
		}
	}
}

func TestCut(t *testing.T) {
	for _, x := range []struct {
		s           string
		sep         byte
		left, right string
		is          bool
	}{
		{"a=b", '=', "a", "b", true},
		{"a=b=c", '=', "a", "b=c", true}, // the first one counts
		{"=", '=', "", "", true},
		{"==", '=', "", "=", true},
		{"=b", '=', "", "b", true},
		{"a=", '=', "a", "", true},
		{" a = b ", '=', " a ", " b ", true}, // blanks stay
		{"", '=', "", "", false},
		{"a", '=', "a", "", false},
		{" a b ", '=', " a b ", "", false},
		{"ab", 'B', "ab", "", false}, // sizes of letters count
		{"", 0, "", "", false},
		{"a\x00b", 0, "a", "b", true},
		{"\xff", 0xff, "", "", true},
		{"a\xffb", 0xff, "a", "b", true},
		{"é", 0xa9, "\xc3", "", true}, // a byte, not a letter
		{"é", 0xe9, "é", "", false},
		{"a\xc3\xa9b", 0xc3, "a", "\xa9b", true},
	} {
		if left, right, is := text.Cut(x.s, x.sep); left != x.left || right != x.right || is != x.is {
			t.Errorf("Cut(%q, %q): %q, %q, %v", x.s, one(int(x.sep)), left, right, is)
		}
	}
}

// TestCutEachByte: each byte as sep, in texts that have it and such that don't.
func TestCutEachByte(t *testing.T) {
	for c := range 256 {
		b := one(c)
		others := ""
		for d := range 256 {
			if d != c {
				others += one(d)
			}
		}
		if left, right, is := text.Cut(others, byte(c)); left != others || right != "" || is {
			t.Errorf("Cut at %q, which isn't there: %q, %q, %v", b, left, right, is)
		}
		if left, right, is := text.Cut(others+b+others+b, byte(c)); left != others || right != others+b || !is {
			t.Errorf("Cut at %q: %q, %q, %v", b, left, right, is)
		}
	}
}

func TestList(t *testing.T) {
	for s, want := range map[string][]string{
		"":                               nil,
		",":                              nil,
		",,,,":                           nil,
		" ,":                             nil,
		", ":                             nil,
		" , ":                            nil,
		"\t,\t,\t":                       nil,
		"a":                              {"a"},
		"a b":                            {"a b"},
		"a,b":                            {"a", "b"},
		"a ,, b":                         {"a", "b"},
		"a \t,\t b":                      {"a", "b"},
		"a b,c d":                        {"a b", "c d"},
		" ,a":                            {"a"},
		" , a":                           {"a"},
		"a, ":                            {"a"},
		"a , ":                           {"a"},
		",a":                             {"a"},
		"a,":                             {"a"},
		",a,":                            {"a"},
		",, a ,,":                        {"a"},
		"\t, a ,\t":                      {"a"},
		"b,a,b":                          {"b", "a", "b"}, // in order, and none is left out
		"0-4, -5,9-":                     {"0-4", "-5", "9-"},
		"\"a,b\"":                        {"\"a", "b\""}, // commas count between quotes, too
		"a;b,c=d":                        {"a;b", "c=d"},
		"\n":                             {"\n"},
		"\ra\n":                          {"\ra\n"},
		"\x00,\xff":                      {"\x00", "\xff"},
		"\u00a0":                         {"\u00a0"},
		"\xa0,\x85":                      {"\xa0", "\x85"},
		"a\n,b":                          {"a\n", "b"},
		"é，é":                            {"é，é"}, // a comma of three bytes is none
		strings.Repeat(" ", 999) + ",a":  {"a"},
		"a," + strings.Repeat("\t", 999): {"a"},
	} {
		if l, is := text.List(s); !is || !slices.Equal(l, want) {
			t.Errorf("List(%.20q): %q, %v; want %q", s, l, is, want)
		}
	}
}

func TestListNone(t *testing.T) {
	for _, s := range []string{
		" ", "\t", "  ", " \t \t", strings.Repeat(" ", 999),
		" a", "\ta", " a,b", "\ta,", " a,", "  a , b", " a b",
		"a ", "a\t", "a,b ", ",a ", ",a\t", "a , b  ", "a b ",
		" a ", " a,b ", "\ta,,b\t", " a, , b ",
		" \xff", "\xff ", " \n", "\n ", " \"a,b\" ",
	} {
		if l, is := text.List(s); l != nil || is {
			t.Errorf("List(%.20q): %q, %v; want none, false", s, l, is)
		}
	}
}

// TestListAgainstGrammar holds List against the rule of RFC 9110, 5.6.1.2, as a pattern.
func TestListAgainstGrammar(t *testing.T) {
	const element = "[^, \t](?:[^,]*[^, \t])?"
	grammar := regexp.MustCompile("(?s)^(?:" + element + ")?(?:[ \t]*,[ \t]*(?:" + element + ")?)*$")
	elements := regexp.MustCompile("(?s)" + element)
	hold := func(s string) {
		var want []string
		if grammar.MatchString(s) {
			want = elements.FindAllString(s, -1)
		}
		if l, is := text.List(s); !slices.Equal(l, want) || is != grammar.MatchString(s) {
			t.Errorf("List(%.20q): %.20q, %v; want %.20q, %v", s, l, is, want, !is)
		}
	}
	each(" \t,a\n", 6, hold)
	each(" ,a", 8, hold)
	for _, s := range parts() {
		hold(s)
		for _, other := range parts()[:16] {
			hold(s + "," + other)
			hold(other + "," + s + "," + other)
		}
	}
}

// TestListLong: any number of elements, and of parts that have none.
func TestListLong(t *testing.T) {
	const many = 50000
	for _, s := range []string{
		strings.Repeat(",", many),
		strings.Repeat(" ,", many),
		strings.Repeat(", ", many),
	} {
		if l, is := text.List(s); len(l) != 0 || !is {
			t.Errorf("List(%.20q): %d, %v", s, len(l), is)
		}
	}
	l, is := text.List(strings.Repeat("a b, ", many))
	if len(l) != many || !is || slices.ContainsFunc(l, func(x string) bool { return x != "a b" }) {
		t.Errorf("%d elements, %v", len(l), is)
	}
}

// TestListOwnMemory: two answers share nothing, nor is anything behind their length.
func TestListOwnMemory(t *testing.T) {
	want := []string{"a", "b", "c", "d", "e"}
	first, _ := text.List("a,b,c,d,e")
	second, _ := text.List("a,b,c,d,e")
	for _, x := range first[len(first):cap(first)] {
		if x != "" {
			t.Errorf("behind the length: %q", x)
		}
	}
	whole := first[:cap(first)]
	for i := range whole {
		whole[i] = "spoilt"
	}
	third, _ := text.List("a,b,c,d,e")
	if !slices.Equal(second, want) || !slices.Equal(third, want) {
		t.Errorf("%q, %q", second, third)
	}
}

// TestSameAnswers: an answer hangs on the arguments alone, not on the calls ahead of it.
func TestSameAnswers(t *testing.T) {
	for range 3 {
		if text.Trim(" \ta b ") != "a b" || text.Right(" a ") != " a" || text.Lower("AbZ") != "abz" {
			t.Error("Trim, Right or Lower")
		}
		if !text.Blank(" \t") || text.Blank("x") || !text.Token("a") || text.Token("") || !text.Fold("A", "a") {
			t.Error("Blank, Token or Fold")
		}
		if a, b, is := text.Cut("a=b", '='); a != "a" || b != "b" || !is {
			t.Error("Cut")
		}
		if l, is := text.List(" a"); l != nil || is {
			t.Error("List of none")
		}
		if l, is := text.List("a ,, b"); !slices.Equal(l, []string{"a", "b"}) || !is {
			t.Error("List")
		}
	}
}
