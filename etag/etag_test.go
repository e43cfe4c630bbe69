package etag_test

import (
	"regexp"
	"strings"
	"testing"

	"spence/api"
	"spence/etag"
)

// tagBytes are the rows of bytes that may stand in a tag, as a pattern of the letters that have the bytes' numbers.
const tagBytes = `[\x21\x23-\x7e\x{80}-\x{ff}]`

// validator is what a Right validator prints, but for how many bytes its tag has.
var validator = regexp.MustCompile(`^(W/)?"(` + tagBytes + `*)"$`)

// one is the text of one byte.
func one(c int) string { return string([]byte{byte(c)}) }

// long is a tag of so many bytes.
func long(n int) string { return strings.Repeat("a", n) }

// may is whether that byte may stand in a tag, as the document says it.
func may(c int) bool { return c == 33 || 35 <= c && c <= 126 || 128 <= c && c <= 255 }

// asLetters is s with a letter for each byte, so that a pattern takes bytes one by one.
func asLetters(s string) string {
	var l []rune
	for i := range len(s) {
		l = append(l, rune(s[i]))
	}
	return string(l)
}

// expected is what Parse must answer, by the pattern.
func expected(s string) (api.ETag, api.Errno) {
	if !validator.MatchString(asLetters(s)) {
		return api.ETag{}, api.ErrForm
	}
	t := api.ETag{Weak: s[0] == 'W'}
	t.Tag = s[strings.IndexByte(s, '"')+1 : len(s)-1]
	if len(t.Tag) > 40 {
		return api.ETag{}, api.ErrLong
	}
	return t, api.OK
}

// each tells all texts of up to so many of those bytes.
func each(bytes string, most int, tell func(s string)) {
	row := []string{""}
	for range most + 1 {
		var longer []string
		for _, s := range row {
			tell(s)
			for i := range len(bytes) {
				longer = append(longer, s+bytes[i:i+1])
			}
		}
		row = longer
	}
}

// tags are some tags of many kinds: such that may be, and others.
func tags() []string {
	l := []string{
		"", "a", "A", "b", "ab", "ba", "v1-0", "v1-1", "v15-4096", "W/", "W/a", "!", "#", "~", "'", "\\", "a\\", "é", "e\u0301", "\u00a0", "€",
		"\x80", "\xff", "\xff\xfe", "a b", " a", "a ", " ", "\t", "\"", "\"\"", "\"a\"", "a\"b", "a\"", "\"a", "\x00", "\x1f", "\x7f", "a\n", "\r\n",
		long(39), long(40), long(41), long(42), long(5000), strings.Repeat("\xff", 40), strings.Repeat("\xff", 41),
		strings.Repeat("é", 20), strings.Repeat("é", 21), strings.Repeat("\"", 40), strings.Repeat("\"", 41),
		long(40) + "\"", long(40) + " ", " " + long(40), long(39) + "\x7f", long(20) + "\"" + long(20), strings.Repeat(" ", 41),
	}
	for c := range 256 {
		l = append(l, one(c), "a"+one(c)+"a")
	}
	return l
}

// texts are some texts of many kinds: validators, and what isn't one.
func texts() []string {
	l := []string{"", " ", "\t", "W", "W/", "w/", "/", "bytes=0-4", "Sat, 29 Oct 1994 19:43:31 GMT", "*"}
	for _, tag := range tags() {
		q := "\"" + tag + "\""
		l = append(l, tag, q, "W/"+q, "w/"+q, "W"+q, "/"+q, "W//"+q, "W/W/"+q, "W/ "+q, " "+q, q+" ", "\""+tag, tag+"\"", "'"+tag+"'", q+","+q)
	}
	return l
}

func TestRight(t *testing.T) {
	for tag, want := range map[string]bool{
		"": true, "a": true, "v1-0": true, "W/a": true, "w/": true, "!": true, "#": true, "~": true, "\\": true, ",": true, "*": true,
		"\x80": true, "\xff": true, "é": true, "a\xffb": true, "日本": true, "\u00a0": true,
		long(39): true, long(40): true, strings.Repeat("\xff", 40): true, strings.Repeat("é", 20): true,
		long(41): false, long(5000): false, strings.Repeat("\xff", 41): false, strings.Repeat("é", 21): false, // bytes count, not letters
		"\"": false, " ": false, "\t": false, "\x00": false, "\x1f": false, "\x7f": false, "\n": false,
		"a b": false, " a": false, "a ": false, "a\"b": false, "\"a\"": false, "a\x7f": false, "\x00a": false, "a\r\n": false,
		long(39) + "\"": false, " " + long(39): false, long(40) + " ": false, long(300) + "\x7f": false,
	} {
		for _, weak := range []bool{false, true} {
			if got := etag.Right(api.ETag{Weak: weak, Tag: tag}); got != want {
				t.Errorf("Right(%v, %.50q): %v", weak, tag, got)
			}
		}
	}
}

// TestRightEachByte: each byte alone, and at each place of the longest tag.
func TestRightEachByte(t *testing.T) {
	for c := range 256 {
		for _, tag := range []string{one(c), one(c) + "a", "a" + one(c), "a" + one(c) + "a", one(c) + one(c)} {
			if got := etag.Right(api.ETag{Tag: tag}); got != may(c) {
				t.Errorf("Right(%q): %v", tag, got)
			}
		}
		for at := range 40 {
			tag := long(at) + one(c) + long(39-at)
			if got := etag.Right(api.ETag{Weak: at%2 == 0, Tag: tag}); got != may(c) {
				t.Errorf("Right of 40 bytes with %q at %d: %v", one(c), at, got)
			}
		}
	}
}

// TestRightEdges: the bytes at which those of a tag begin or end, written out.
func TestRightEdges(t *testing.T) {
	for c, want := range map[int]bool{31: false, 32: false, 33: true, 34: false, 35: true, 125: true, 126: true, 127: false, 128: true, 129: true, 254: true, 255: true, 0: false} {
		if got := etag.Right(api.ETag{Tag: one(c)}); got != want {
			t.Errorf("Right of byte %d: %v", c, got)
		}
		if x, e := etag.Parse("\"" + one(c) + "\""); want && (x.Tag != one(c) || e != api.OK) || !want && (x != api.ETag{} || e != api.ErrForm) {
			t.Errorf("Parse of byte %d: %q, %d", c, x.Tag, e)
		}
	}
}

// TestRightLengths: as many bytes as may be, and not one more.
func TestRightLengths(t *testing.T) {
	for n := range 300 {
		for _, tag := range []string{long(n), strings.Repeat("\x80", n), strings.Repeat("!", n)} {
			if got := etag.Right(api.ETag{Tag: tag}); got != (n <= 40) {
				t.Errorf("Right of %d bytes: %v", n, got)
			}
		}
	}
}

func TestPrint(t *testing.T) {
	for _, x := range []struct {
		weak bool
		tag  string
		want string
	}{
		{false, "", `""`},
		{true, "", `W/""`},
		{false, "a", `"a"`},
		{true, "a", `W/"a"`},
		{false, "v1-0", `"v1-0"`},
		{true, "v1-0", `W/"v1-0"`},
		{false, "W/", `"W/"`},
		{true, "W/", `W/"W/"`},
		{false, "é", `"é"`},
		{false, "\\", `"\"`}, // nothing is written another way
		{false, "\xff\x80", "\"\xff\x80\""},
		{true, long(40), `W/"` + long(40) + `"`},
		// What isn't Right prints like the others.
		{false, `"`, `"""`},
		{true, `a"b`, `W/"a"b"`},
		{false, " \t", "\" \t\""},
		{false, "\x00\x7f", "\"\x00\x7f\""},
		{false, long(41), `"` + long(41) + `"`},
		{true, long(5000), `W/"` + long(5000) + `"`},
	} {
		if got := etag.Print(api.ETag{Weak: x.weak, Tag: x.tag}); got != x.want {
			t.Errorf("Print(%v, %.50q): %.50q; want %.50q", x.weak, x.tag, got, x.want)
		}
	}
}

func TestParse(t *testing.T) {
	for s, want := range map[string]api.ETag{
		`""`:                                {},
		`W/""`:                              {Weak: true},
		`"a"`:                               {Tag: "a"},
		`W/"a"`:                             {Weak: true, Tag: "a"},
		`"v1-0"`:                            {Tag: "v1-0"},
		`W/"v1-0"`:                          {Weak: true, Tag: "v1-0"},
		`"W/"`:                              {Tag: "W/"},
		`"W/a"`:                             {Tag: "W/a"},
		`W/"W/"`:                            {Weak: true, Tag: "W/"},
		`"w/"`:                              {Tag: "w/"},
		`"!#$%&'()*+,-./0:;<=>?@A[\]^_a"`:   {Tag: `!#$%&'()*+,-./0:;<=>?@A[\]^_a`},
		"\"`a{|}~\"":                        {Tag: "`a{|}~"},
		`"\"`:                               {Tag: `\`}, // nothing is taken for another byte
		`"'"`:                               {Tag: "'"},
		`"é"`:                               {Tag: "é"},
		"\"\x80\xff\"":                      {Tag: "\x80\xff"},
		"W/\"\xc3\"":                        {Weak: true, Tag: "\xc3"}, // half a letter
		`"` + long(39) + `"`:                {Tag: long(39)},
		`"` + long(40) + `"`:                {Tag: long(40)},
		`W/"` + long(40) + `"`:              {Weak: true, Tag: long(40)},
		`"` + strings.Repeat("é", 20) + `"`: {Tag: strings.Repeat("é", 20)},
	} {
		if x, e := etag.Parse(s); x != want || e != api.OK {
			t.Errorf("Parse(%q): %v, %q, %d; want %v, %q", s, x.Weak, x.Tag, e, want.Weak, want.Tag)
		}
	}
}

// refused: Parse of s is that error, and nothing beside it.
func refused(t *testing.T, s string, want api.Errno) {
	t.Helper()
	if x, e := etag.Parse(s); x != (api.ETag{}) || e != want {
		t.Errorf("Parse(%.60q): %v, %.60q, %d; want none, %d", s, x.Weak, x.Tag, e, want)
	}
}

func TestParseForm(t *testing.T) {
	for _, s := range []string{
		"", " ", "a", "v1-0", "'a'", "*", "W", "W/", "w/", "/", "W/a", "bytes=0-4", "Sat, 29 Oct 1994 19:43:31 GMT",
		// one quote alone
		`"`, `W/"`, `"a`, `a"`, `W/"a`, `W/a"`, `W"`, `"W/`,
		// two quotes, but not where they must be
		`a""`, `""a`, `a"b"c`, `"a"b`, `b"a"`, `"a"b"c`, `W/"a"b`, `xW/"a"`,
		// a third one
		`"""`, `"a"b"`, `""a"`, `"a""`, `W/"""`, `""""`, `"a","b"`, `"a""b"`, `W/"a"b"`,
		// what says that it is weak isn't just so
		`w/"a"`, `W"a"`, `/"a"`, `W\"a"`, `W//"a"`, `WW/"a"`, `W/W/"a"`, `w"a"`, `V/"a"`, `X/"a"`, "W\x00\"a\"", `w/W/"a"`, `/W"a"`, `"a"/W`, `"a"W/`,
		// blanks
		` "a"`, `"a" `, "\t\"a\"", "\"a\"\t", `W/ "a"`, `W /"a"`, ` W/"a"`, `W/"a" `, `"a b"`, `" a"`, `"a "`, `" "`, "\"\t\"", "\"a\tb\"", "\"a\"\r\n", "\n\"a\"", `W/" "`,
		// other bytes that may not be
		"\"\x00\"", "\"\x1f\"", "\"\x7f\"", "\"a\x7f\"", "W/\"\x7f\"", "\"a\n\"", "\x00\"a\"", "\"a\"\x00", "\xff\"a\"", "\"a\"\xff", "\xef\xbb\xbf\"a\"",
		// quotes of other kinds
		"“a”", "\x22a\x27", "`a`", "„a“", "\u00aba\u00bb",
	} {
		refused(t, s, api.ErrForm)
	}
}

// TestParseLong: only what would be a validator, if it had fewer bytes, is too long.
func TestParseLong(t *testing.T) {
	for _, tag := range []string{long(41), long(42), long(80), long(5000), strings.Repeat("\xff", 41), strings.Repeat("é", 21), "!" + long(39) + "~", strings.Repeat("W/", 21)} {
		refused(t, `"`+tag+`"`, api.ErrLong)
		refused(t, `W/"`+tag+`"`, api.ErrLong)
		for _, s := range []string{
			tag, `"` + tag, tag + `"`, `W/` + tag, `w/"` + tag + `"`, `W"` + tag + `"`, ` "` + tag + `"`, `"` + tag + `" `, `"` + tag + `"a`, `a"` + tag + `"`,
			`"` + tag + ` "`, `" ` + tag + `"`, `"` + tag + `""`, `""` + tag + `"`, "\"" + tag + "\x7f\"", "\"\x00" + tag + "\"", "W/\"" + tag + "\t\"", "'" + tag + "'",
		} {
			refused(t, s, api.ErrForm)
		}
	}
}

// TestParseLongWrong: in a tag that is too long a wrong byte counts first, wherever it stands.
func TestParseLongWrong(t *testing.T) {
	for c := range 256 {
		want := api.ErrLong
		if !may(c) {
			want = api.ErrForm
		}
		for _, n := range []int{40, 41, 100} {
			for at := range n + 1 {
				refused(t, `"`+long(at)+one(c)+long(n-at)+`"`, want)
			}
		}
		refused(t, `W/"`+long(40)+one(c)+`"`, want)
	}
}

// TestParseEachByte: each byte ahead of a validator, within it, and behind it.
func TestParseEachByte(t *testing.T) {
	for c := range 256 {
		b := one(c)
		refused(t, b, api.ErrForm)
		refused(t, b+`"a"`, api.ErrForm)
		refused(t, `"a"`+b, api.ErrForm)
		refused(t, b+"a"+b+b, api.ErrForm)
		refused(t, b+`W/"a"`, api.ErrForm)
		refused(t, `W/`+b+`"a"`, api.ErrForm)
		refused(t, `W`+b+`/"a"`, api.ErrForm)
		refused(t, `W/"a"`+b, api.ErrForm)
		for _, s := range []string{`"` + b + `"`, `"a` + b + `"`, `"` + b + `a"`, `W/"a` + b + `a"`, b + `/"a"`, `W` + b + `"a"`, b + `a"`, `"a` + b, b + "a" + b} {
			want, errno := expected(s)
			if x, e := etag.Parse(s); x != want || e != errno {
				t.Errorf("Parse(%q): %v, %q, %d; want %v, %q, %d", s, x.Weak, x.Tag, e, want.Weak, want.Tag, errno)
			}
		}
	}
}

// TestParseAgainstPattern holds Parse against the grammar as a pattern, over all short texts of bytes that mean something, and over many others.
func TestParseAgainstPattern(t *testing.T) {
	hold := func(s string) {
		want, errno := expected(s)
		if x, e := etag.Parse(s); x != want || e != errno {
			t.Errorf("Parse(%.60q): %v, %.60q, %d; want %v, %.60q, %d", s, x.Weak, x.Tag, e, want.Weak, want.Tag, errno)
		}
	}
	each("W/\"w \x7f\xff", 6, hold)
	each("W/\"", 9, hold)
	for _, s := range texts() {
		hold(s)
	}
}

// TestThereAndBack: what is Right is read as it was printed; of what isn't, Parse says why.
func TestThereAndBack(t *testing.T) {
	for _, tag := range tags() {
		for _, weak := range []bool{false, true} {
			x := api.ETag{Weak: weak, Tag: tag}
			s := etag.Print(x)
			back, e := etag.Parse(s)
			switch {
			case etag.Right(x):
				if back != x || e != api.OK {
					t.Errorf("%.60q: %v, %.60q, %d", s, back.Weak, back.Tag, e)
				}
			case back != (api.ETag{}) || e != api.ErrForm && e != api.ErrLong:
				t.Errorf("%.60q: %v, %.60q, %d; want an error", s, back.Weak, back.Tag, e)
			}
		}
	}
}

// TestParseThenPrint: what is read is Right, and prints as it was.
func TestParseThenPrint(t *testing.T) {
	read := 0
	for _, s := range texts() {
		x, e := etag.Parse(s)
		if e != api.OK {
			continue
		}
		read++
		if !etag.Right(x) || etag.Print(x) != s {
			t.Errorf("%.60q: %v, %.60q", s, x.Weak, x.Tag)
		}
	}
	if read < 400 {
		t.Errorf("only %d were read", read)
	}
}

func TestStrongWeak(t *testing.T) {
	strong := func(tag string) api.ETag { return api.ETag{Tag: tag} }
	weak := func(tag string) api.ETag { return api.ETag{Weak: true, Tag: tag} }
	for _, x := range []struct {
		a, b           api.ETag
		strong, weakly bool
	}{
		// the table of RFC 9110, 8.8.3.2
		{weak("1"), weak("1"), false, true},
		{weak("1"), weak("2"), false, false},
		{weak("1"), strong("1"), false, true},
		{strong("1"), strong("1"), true, true},
		{strong(""), strong(""), true, true},
		{weak(""), strong(""), false, true},
		{weak(""), weak(""), false, true},
		{strong(""), strong("a"), false, false},
		{strong("a"), strong("A"), false, false},
		{strong("a"), strong("ab"), false, false},
		{strong("a"), strong("a "), false, false},
		{weak("a"), strong("b"), false, false},
		{strong("W/a"), weak("a"), false, false},
		{strong("é"), strong("e\u0301"), false, false},
		{strong("\xff"), strong("\xff"), true, true},
		{strong(long(40)), strong(long(40)), true, true},
		{strong(long(40)), strong(long(39)), false, false},
		{strong(long(39) + "a"), strong(long(39) + "b"), false, false},
		// Nothing says that they must be Right.
		{strong(long(5000)), strong(long(5000)), true, true},
		{strong("a\"b"), strong("a\"b"), true, true},
		{strong("a\"b"), weak("a\"b"), false, true},
		{strong(" "), strong(" "), true, true},
		{strong("\x00"), strong(""), false, false},
	} {
		if etag.Strong(x.a, x.b) != x.strong || etag.Strong(x.b, x.a) != x.strong {
			t.Errorf("Strong of %.50q and %.50q: want %v", etag.Print(x.a), etag.Print(x.b), x.strong)
		}
		if etag.Weak(x.a, x.b) != x.weakly || etag.Weak(x.b, x.a) != x.weakly {
			t.Errorf("Weak of %.50q and %.50q: want %v", etag.Print(x.a), etag.Print(x.b), x.weakly)
		}
	}
}

// TestStrongWeakEachOther: all tags two and two, weak and not.
func TestStrongWeakEachOther(t *testing.T) {
	for _, a := range tags()[:60] {
		for _, b := range tags()[:60] {
			for _, w := range [][2]bool{{false, false}, {false, true}, {true, false}, {true, true}} {
				x, y := api.ETag{Weak: w[0], Tag: a}, api.ETag{Weak: w[1], Tag: b}
				if got := etag.Strong(x, y); got != (a == b && !w[0] && !w[1]) {
					t.Errorf("Strong of %.50q and %.50q: %v", etag.Print(x), etag.Print(y), got)
				}
				if got := etag.Weak(x, y); got != (a == b) {
					t.Errorf("Weak of %.50q and %.50q: %v", etag.Print(x), etag.Print(y), got)
				}
			}
		}
	}
}

func TestUse(t *testing.T) {
	for _, x := range []struct {
		header, tag string
		want        bool
	}{
		// There is no condition.
		{"", "", true},
		{"", "a", true},
		{"", "a\"b", true},
		{" ", "a", true},
		{"\t", "a", true},
		{" \t \t", "", true},
		{strings.Repeat(" ", 5000), "a", true},
		// the same one, with blanks ahead or behind
		{`"a"`, "a", true},
		{` "a"`, "a", true},
		{`"a" `, "a", true},
		{" \t\"a\"\t ", "a", true},
		{strings.Repeat(" ", 5000) + `"a"` + strings.Repeat("\t", 5000), "a", true},
		{`"v1-0"`, "v1-0", true},
		{`""`, "", true},
		{` "" `, "", true},
		{`"W/"`, "W/", true},
		{"\"\xff\"", "\xff", true},
		{`"` + long(40) + `"`, long(40), true},
		// another one
		{`"a"`, "b", false},
		{`"a"`, "A", false},
		{`"a"`, "", false},
		{`""`, "a", false},
		{`"a"`, "ab", false},
		{`"ab"`, "a", false},
		{`"a"`, `"a"`, false},
		{`"a"`, "a ", false},
		{`"` + long(40) + `"`, long(39), false},
		// a weak one
		{`W/"a"`, "a", false},
		{` W/"a" `, "a", false},
		{`W/""`, "", false},
		{`W/"a"`, `W/"a"`, false},
		{`W/"a"`, "W/a", false},
		{`W/"a"`, "b", false},
		// what is no validator
		{"Sat, 29 Oct 1994 19:43:31 GMT", "a", false},
		{"Sat, 29 Oct 1994 19:43:31 GMT", "", false},
		{"Sat, 29 Oct 1994 19:43:31 GMT", "Sat, 29 Oct 1994 19:43:31 GMT", false},
		{`"Sat, 29 Oct 1994 19:43:31 GMT"`, "Sat, 29 Oct 1994 19:43:31 GMT", false},
		{"a", "a", false},
		{"a", "", false},
		{"*", "", false},
		{"*", "*", false},
		{`"`, "", false},
		{`"a`, "a", false},
		{`a"`, "a", false},
		{`w/"a"`, "a", false},
		{`"a", "b"`, "a", false},
		{`"a",`, "a", false},
		{`"a" "a"`, "a", false},
		{`"a b"`, "a b", false},
		{`" a"`, "a", false},
		{`" a"`, " a", false},
		{`"a"b"`, `a"b`, false},
		{"\"\x7f\"", "\x7f", false},
		{"\"\x7f\"", "", false},
		{"\"a\"\n", "a", false},
		{"\r\n\"a\"", "a", false},
		{"\n", "", false},
		{"\u00a0", "", false},
		{"\u00a0\"a\"", "a", false},
		{"\x00", "", false},
		// a tag that is too long is none
		{`"` + long(41) + `"`, long(41), false},
		{`"` + long(41) + `"`, long(40), false},
		{`"` + long(41) + `"`, "", false},
	} {
		if got := etag.Use(x.header, x.tag); got != x.want {
			t.Errorf("Use(%.50q, %.50q): %v", x.header, x.tag, got)
		}
	}
}

// TestUseAgainstPattern: just the header that prints so counts, of tags that may be; no other one does for any tag.
func TestUseAgainstPattern(t *testing.T) {
	for _, header := range texts() {
		for _, tag := range []string{"", "a", "v1-0", "\xff", long(40), long(41), "a\"b", " ", "W/", header} {
			x, errno := expected(strings.Trim(header, " \t"))
			want := strings.Trim(header, " \t") == "" || errno == api.OK && !x.Weak && x.Tag == tag
			for _, h := range []string{header, " " + header + "\t"} {
				if got := etag.Use(h, tag); got != want {
					t.Errorf("Use(%.60q, %.60q): %v", h, tag, got)
				}
			}
		}
	}
}

// TestUseEachByte: each byte beside a validator, and within it.
func TestUseEachByte(t *testing.T) {
	for c := range 256 {
		b, blank := one(c), c == 32 || c == 9
		for _, header := range []string{b + `"a"`, `"a"` + b, b + `"a"` + b} {
			if got := etag.Use(header, "a"); got != blank {
				t.Errorf("Use(%q, a): %v", header, got)
			}
		}
		if got := etag.Use(b, b); got != blank {
			t.Errorf("Use(%q, %q): %v", b, b, got)
		}
		if got := etag.Use(`"`+b+`"`, b); got != may(c) {
			t.Errorf("Use(%q between quotes, %q): %v", b, b, got)
		}
		if etag.Use(`W/"`+b+`"`, b) {
			t.Errorf("Use(%q between quotes, weak, %q)", b, b)
		}
	}
}

// TestLongTexts: any text may come, also a very long one.
func TestLongTexts(t *testing.T) {
	const many = 1 << 20
	refused(t, long(many), api.ErrForm)
	refused(t, strings.Repeat("\"", many), api.ErrForm)
	refused(t, strings.Repeat("W/", many), api.ErrForm)
	refused(t, `"`+long(many)+`"`, api.ErrLong)
	refused(t, `"`+long(many)+` "`, api.ErrForm)
	if x := (api.ETag{Weak: true, Tag: long(many)}); len(etag.Print(x)) != many+4 || etag.Right(x) || !etag.Weak(x, x) {
		t.Error("a long tag")
	}
	if etag.Use(`"`+long(many)+`"`, long(many)) || !etag.Use(strings.Repeat(" \t", many), "a") {
		t.Error("a long header")
	}
}

// TestSameAnswers: an answer hangs on the arguments alone, not on the calls ahead of it.
func TestSameAnswers(t *testing.T) {
	for range 3 {
		refused(t, `"a b"`, api.ErrForm)
		refused(t, `W/"`+long(41)+`"`, api.ErrLong)
		x, e := etag.Parse(`W/"v1-0"`)
		if x != (api.ETag{Weak: true, Tag: "v1-0"}) || e != api.OK || etag.Print(x) != `W/"v1-0"` || !etag.Right(x) {
			t.Error(x, e)
		}
		y, e := etag.Parse(`"v1-0"`)
		if y != (api.ETag{Tag: "v1-0"}) || e != api.OK || etag.Print(y) != `"v1-0"` {
			t.Error(y, e)
		}
		if etag.Strong(x, y) || !etag.Weak(x, y) || !etag.Strong(y, y) || etag.Right(api.ETag{Tag: " "}) {
			t.Error("Strong, Weak or Right")
		}
		if !etag.Use(`"a"`, "a") || etag.Use(`W/"a"`, "a") || !etag.Use("", "a") || etag.Use("a", "") {
			t.Error("Use")
		}
	}
}
