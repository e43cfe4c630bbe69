package spec_test

import (
	"math"
	"math/big"
	"regexp"
	"slices"
	"strings"
	"testing"

	"spence/api"
	"spence/spec"
)

const (
	most = "4611686018427387903" // MaxNum
	over = "4611686018427387904" // one above it
	far  = "99999999999999999999"
)

// from, both and last are a spec of each kind.
func from(n int) api.Spec           { return api.Spec{Kind: api.SpecFrom, First: n} }
func both(first, last int) api.Spec { return api.Spec{Kind: api.SpecBoth, First: first, Last: last} }
func last(n int) api.Spec           { return api.Spec{Kind: api.SpecLast, First: n} }

// one is the text of one byte.
func one(c int) string { return string([]byte{byte(c)}) }

// noughts is so many of them.
func noughts(n int) string { return strings.Repeat("0", n) }

// row is that text so many times, with commas between.
func row(s string, n int) string {
	return strings.TrimSuffix(strings.Repeat(s+",", n), ",")
}

// asLetters is s with a letter for each byte, so that a pattern takes bytes one by one.
func asLetters(s string) string {
	var l []rune
	for i := range len(s) {
		l = append(l, rune(s[i]))
	}
	return string(l)
}

// each tells all texts of up to so many of those bytes.
func each(bytes string, most int, tell func(s string)) {
	row := []string{""}
	for range most + 1 {
		var longer []string
		for _, s := range row {
			tell(s)
			for i := range len(bytes) {
				longer = append(longer, s+bytes[i:i+1])
			}
		}
		row = longer
	}
}

const element = `(?:[0-9]+-[0-9]*|-[0-9]+)`

var (
	onePattern = regexp.MustCompile(`^(?:([0-9]+)-([0-9]*)|-([0-9]+))$`)
	elements   = regexp.MustCompile(element)
	// field is the field's grammar, but for what the numbers say.
	field = regexp.MustCompile(`^[ \t]*[bB][yY][tT][eE][sS]=(?:` + element + `)?(?:[ \t]*,[ \t]*(?:` + element + `)?)*[ \t]*$`)
)

// number is a text of digits as an int, and whether it is a number that may be.
func number(digits string) (int, bool) {
	n, _ := new(big.Int).SetString(digits, 10)
	if n.Cmp(big.NewInt(api.MaxNum)) > 0 {
		return 0, false
	}
	return int(n.Int64()), true
}

// greater is whether a is the greater one of two texts of digits.
func greater(a, b string) bool {
	x, _ := new(big.Int).SetString(a, 10)
	y, _ := new(big.Int).SetString(b, 10)
	return x.Cmp(y) > 0
}

// expectedOne is what One must answer, by the pattern, and numbers without a limit.
func expectedOne(s string) (api.Spec, api.Errno) {
	m := onePattern.FindStringSubmatch(asLetters(s))
	if m == nil || m[1] != "" && m[2] != "" && greater(m[1], m[2]) {
		return api.Spec{}, api.ErrForm
	}
	x, digits := last(0), m[3]
	if m[1] != "" {
		x, digits = from(0), m[1]
	}
	n, is := number(digits)
	x.First = n
	if m[2] != "" {
		end, ends := number(m[2])
		x, is = both(n, end), is && ends
	}
	if !is {
		return api.Spec{}, api.ErrOver
	}
	return x, api.OK
}

// expected is what Parse must answer, by the pattern of the whole field.
func expected(s string) ([]api.Spec, api.Errno) {
	if !field.MatchString(asLetters(s)) {
		return nil, api.ErrForm
	}
	var l []api.Spec
	errors := map[api.Errno]bool{}
	for _, x := range elements.FindAllString(s[strings.Index(s, "=")+1:], -1) {
		y, e := expectedOne(x)
		l, errors[e] = append(l, y), true
	}
	switch {
	case len(l) == 0 || errors[api.ErrForm]:
		return nil, api.ErrForm
	case errors[api.ErrOver]:
		return nil, api.ErrOver
	case len(l) > 16:
		return nil, api.ErrLong
	}
	return l, api.OK
}

// digits are texts of numbers: small ones and great ones, with noughts ahead and without.
func digits() []string {
	var l []string
	for _, s := range []string{
		"0", "1", "2", "9", "10", "11", "19", "20", "99", "100", "4611686018427387902", most, over, "4611686018427387905", "4611686018427387913",
		"9223372036854775807", "9223372036854775808", "18446744073709551615", "18446744073709551616", "18446744073709551617", "36893488147419103233",
		far, "1" + noughts(20), "1" + noughts(300), strings.Repeat("9", 300),
	} {
		l = append(l, s, "0"+s, noughts(30)+s)
	}
	return l
}

// ints are numbers at which something begins or ends, below 0 and above MaxNum too.
func ints() []int {
	return []int{math.MinInt, math.MinInt + 1, -api.MaxNum, -2, -1, 0, 1, 2, 9, 10, 99, api.MaxNum - 1, api.MaxNum, api.MaxNum + 1, math.MaxInt - 1, math.MaxInt}
}

// all are specs of each kind, and of none, with each two of those numbers.
func all() []api.Spec {
	var l []api.Spec
	for _, kind := range []int{math.MinInt, -1, 0, api.SpecFrom, api.SpecBoth, api.SpecLast, 4, 5, 257, 1 << 32, 1<<32 + 1, math.MaxInt} {
		for _, first := range ints() {
			for _, last := range ints() {
				l = append(l, api.Spec{Kind: kind, First: first, Last: last})
			}
		}
	}
	return l
}

// right are those of all that may be, as the document says it.
func right() []api.Spec {
	return slices.DeleteFunc(all(), func(x api.Spec) bool {
		switch x.Kind {
		case api.SpecFrom, api.SpecLast:
			return x.First < 0 || x.First > api.MaxNum || x.Last != 0
		case api.SpecBoth:
			return x.First < 0 || x.Last < x.First || x.Last > api.MaxNum
		}
		return true
	})
}

// tells: One of s is x.
func tells(t *testing.T, s string, x api.Spec) {
	t.Helper()
	if got, e := spec.One(s); got != x || e != api.OK {
		t.Errorf("One(%.60q): %v, %d; want %v", s, got, e, x)
	}
}

// refusedOne: One of s is that error, and nothing beside it.
func refusedOne(t *testing.T, s string, want api.Errno) {
	t.Helper()
	if got, e := spec.One(s); got != (api.Spec{}) || e != want {
		t.Errorf("One(%.60q): %v, %d; want none, %d", s, got, e, want)
	}
}

// reads: Parse of s is that list, and Asked too.
func reads(t *testing.T, s string, want ...api.Spec) {
	t.Helper()
	if l, e := spec.Parse(s); !slices.Equal(l, want) || e != api.OK {
		t.Errorf("Parse(%.80q): %v, %d; want %v", s, l, e, want)
	}
	if l := spec.Asked(s); !slices.Equal(l, want) {
		t.Errorf("Asked(%.80q): %v; want %v", s, l, want)
	}
}

// refused: Parse of s is that error, and no list beside it; Asked is none.
func refused(t *testing.T, s string, want api.Errno) {
	t.Helper()
	if l, e := spec.Parse(s); len(l) != 0 || e != want {
		t.Errorf("Parse(%.80q): %v, %d; want none, %d", s, l, e, want)
	}
	if l := spec.Asked(s); len(l) != 0 {
		t.Errorf("Asked(%.80q): %v; want none", s, l)
	}
}

func TestOne(t *testing.T) {
	for s, want := range map[string]api.Spec{
		"0-":                            from(0),
		"5-":                            from(5),
		"10-":                           from(10),
		"007-":                          from(7),
		"08-":                           from(8), // noughts ahead don't make it another kind of number
		noughts(50) + "-":               from(0),
		most + "-":                      from(api.MaxNum),
		noughts(50) + most + "-":        from(api.MaxNum),
		"0-0":                           both(0, 0),
		"0-1":                           both(0, 1),
		"0-499":                         both(0, 499),
		"5-5":                           both(5, 5),
		"9-10":                          both(9, 10), // as numbers, not as texts
		"99-100":                        both(99, 100),
		"009-10":                        both(9, 10),
		"9-0010":                        both(9, 10),
		"0009-9":                        both(9, 9),
		"9-0009":                        both(9, 9),
		"00-0":                          both(0, 0),
		"0-00":                          both(0, 0),
		"0-" + most:                     both(0, api.MaxNum),
		most + "-" + most:               both(api.MaxNum, api.MaxNum),
		"4611686018427387902-" + most:   both(api.MaxNum-1, api.MaxNum),
		noughts(50) + "1-" + "0" + most: both(1, api.MaxNum),
		"-0":                            last(0),
		"-1":                            last(1),
		"-500":                          last(500),
		"-007":                          last(7),
		"-" + noughts(50):               last(0),
		"-" + most:                      last(api.MaxNum),
		"-" + noughts(50) + most:        last(api.MaxNum),
	} {
		tells(t, s, want)
	}
}

func TestOneForm(t *testing.T) {
	for _, s := range []string{
		"", "-", "--", "---", "0", "5", "12345", most, far, "x", "x-", "-x", "x-y", "1-x", "x-1", "*", "*-", "1-*", "?",
		// a dash too many
		"1--", "--1", "1--2", "1-2-", "-1-", "-1-2", "1-2-3", "0-0-0", "-1--2", "1- -2", "-0-", "0--0",
		// signs
		"+1-", "-+1", "1-+2", "+1-2", "+1-+2", "--5", "1--0", "- 1", "+", "+-", "-+", "+1", "1+2", "1-2+",
		// blanks, also at the ends: they are Parse's
		" ", " -", "- ", " 1-", "1 -", "1- ", " 1-2", "1 -2", "1- 2", "1-2 ", "1 2-3", "1-2 3", "- 5", " -5", "-5 ", "\t-5", "1-\t2", "1-2\n", "\r\n1-2", "1-2\r\n",
		// what is more than one, or what is around one
		"1-2,3-4", "1-2,", ",1-2", ",", "bytes=1-2", "bytes=-5", "=1-2", "1-2=", "1-2;", "\"1-2\"", "1-2/5", "1-2/*", "1..2", "1:2", "1_2", "1/2",
		// other ways to write a number
		"0x1-0x2", "1e3-", "-1e3", "1.0-2.0", "1-2.", "1_0-2_0", "a-f", "0b1-", "0o7-", "1k-", "-1k", "inf-", "nan-",
		// other bytes
		"\x00", "1-\x00", "\x001-", "-\x00", "1-2\x00", "\xff-", "-\xff", "1-\xff", "1\u00ad2", "1\u20132", "1\u22122", "٣-٤", "１-２", "²-", "-½", "\u00a01-2", "1-2\u00a0",
	} {
		refusedOne(t, s, api.ErrForm)
	}
}

// TestOneBelow: a Last below First, whether they may be or are too great.
func TestOneBelow(t *testing.T) {
	for _, s := range []string{
		"1-0", "2-1", "10-9", "100-99", "499-0", "5-4", "3-1", "0010-9", "10-0009", "0010-0009", "2-" + noughts(50) + "1", noughts(50) + "2-1", "1-" + noughts(50), "1-00",
		most + "-4611686018427387902", most + "-0", noughts(50) + most + "-4611686018427387902",
		// First is above MaxNum, Last isn't
		far + "-3", far + "-0", over + "-" + most, over + "-0", noughts(50) + over + "-" + most, over + "-" + noughts(50) + most, over + "-" + noughts(50),
		// both are
		far + "-" + over, "4611686018427387905-" + over, noughts(50) + far + "-" + over, far + "-" + noughts(50) + over,
		"18446744073709551616-18446744073709551615", // each wraps round to a number that is below the other
		"18446744073709551621-18446744073709551620",
		"36893488147419103233-18446744073709551618",
		"1" + noughts(300) + "-" + strings.Repeat("9", 300),
		strings.Repeat("9", 300) + "-" + strings.Repeat("9", 299) + "8",
	} {
		refusedOne(t, s, api.ErrForm)
	}
}

func TestOneOver(t *testing.T) {
	for _, s := range []string{
		over + "-", "-" + over, far + "-", "-" + far, "9223372036854775807-", "-9223372036854775808", "18446744073709551616-", "-18446744073709551621",
		noughts(50) + over + "-", "-" + noughts(50) + over, "1" + noughts(300) + "-", "-1" + noughts(300), strings.Repeat("9", 5000) + "-",
		// Last alone is above MaxNum
		"0-" + over, "3-" + far, most + "-" + over, noughts(50) + most + "-" + over, most + "-" + noughts(50) + over, "5-18446744073709551616", "5-18446744073709551617", "5-1" + noughts(300),
		// both are, and Last isn't below First
		over + "-" + over, over + "-4611686018427387905", over + "-" + far, far + "-" + far, noughts(50) + far + "-" + far, far + "-" + noughts(50) + far,
		"18446744073709551615-18446744073709551616", strings.Repeat("9", 300) + "-1" + noughts(300),
	} {
		refusedOne(t, s, api.ErrOver)
	}
}

// TestOneFormAhead: what isn't of the form counts ahead of a number that is too great, wherever both stand.
func TestOneFormAhead(t *testing.T) {
	for _, s := range []string{
		far, far + "x", "x" + far + "-", far + "x-", "-" + far + "x", "-x" + far, far + "-x", "x-" + far, far + "- ", " " + far + "-", far + "--", "--" + far, "-" + far + "-",
		far + "-1-2", "1-" + far + "-2", far + "-" + far + "-", "-" + far + "-" + far, "+" + far + "-", "-+" + far, far + "-+1", far + " -" + far, far + "-" + far + " ", far + "-" + far + "x", "x-" + far + far,
		"1x-" + over, over + "-1x", over + ".0-", "-" + over + ".0",
	} {
		refusedOne(t, s, api.ErrForm)
	}
}

// TestOneEachByte: each byte alone, and at each place of a spec of each kind.
func TestOneEachByte(t *testing.T) {
	for c := range 256 {
		for _, s := range []string{"", "-", "7-", "-7", "7-9", "17-95", far + "-", "-" + far, "0-" + far} {
			for at := range len(s) + 1 {
				laid := s[:at] + one(c) + s[at:]
				want, errno := expectedOne(laid)
				if got, e := spec.One(laid); got != want || e != errno {
					t.Errorf("One(%q): %v, %d; want %v, %d", laid, got, e, want, errno)
				}
				if digit := '0' <= c && c <= '9'; !digit && c != '-' {
					refusedOne(t, laid, api.ErrForm)
				}
			}
		}
	}
}

// TestOneAgainstPattern holds One against the grammar as a pattern, over all short texts of bytes that mean something.
func TestOneAgainstPattern(t *testing.T) {
	hold := func(s string) {
		want, errno := expectedOne(s)
		if got, e := spec.One(s); got != want || e != errno {
			t.Errorf("One(%.80q): %v, %d; want %v, %d", s, got, e, want, errno)
		}
	}
	each("-019", 6, hold)
	each("-1 +,x", 5, hold)
	for _, a := range digits() {
		hold(a)
		hold(a + "-")
		hold("-" + a)
		for _, b := range digits() {
			hold(a + "-" + b)
			hold(a + "-" + b + "-")
			hold("-" + a + "-" + b)
			hold(a + " -" + b)
		}
	}
}

func TestRight(t *testing.T) {
	for x, want := range map[api.Spec]bool{
		{}: false, {First: 1}: false, {Kind: 4}: false, {Kind: -1}: false, {Kind: 4, First: 1, Last: 2}: false, {Kind: math.MaxInt}: false, {Kind: math.MinInt}: false,
		from(0): true, from(1): true, from(api.MaxNum): true,
		from(-1): false, from(api.MaxNum + 1): false, from(math.MinInt): false, from(math.MaxInt): false,
		{Kind: api.SpecFrom, Last: 1}: false, {Kind: api.SpecFrom, Last: -1}: false, {Kind: api.SpecFrom, First: 1, Last: 2}: false, {Kind: api.SpecFrom, First: 2, Last: 2}: false, {Kind: api.SpecFrom, Last: api.MaxNum}: false,
		last(0): true, last(1): true, last(api.MaxNum): true,
		last(-1): false, last(api.MaxNum + 1): false, last(math.MinInt): false, last(math.MaxInt): false,
		{Kind: api.SpecLast, Last: 1}: false, {Kind: api.SpecLast, Last: -1}: false, {Kind: api.SpecLast, First: 1, Last: 2}: false, {Kind: api.SpecLast, First: 2, Last: 2}: false, {Kind: api.SpecLast, Last: api.MaxNum}: false,
		both(0, 0): true, both(0, 1): true, both(1, 1): true, both(9, 10): true, both(0, api.MaxNum): true, both(api.MaxNum, api.MaxNum): true, both(api.MaxNum-1, api.MaxNum): true,
		both(1, 0): false, both(10, 9): false, both(-1, 0): false, both(-1, -1): false, both(-2, -1): false, both(0, -1): false, both(api.MaxNum, api.MaxNum-1): false,
		both(0, api.MaxNum+1): false, both(api.MaxNum+1, api.MaxNum+1): false, both(api.MaxNum, api.MaxNum+1): false, both(0, math.MaxInt): false, both(math.MinInt, math.MaxInt): false, both(math.MinInt, 0): false, both(api.MaxNum+1, api.MaxNum): false,
	} {
		if got := spec.Right(x); got != want {
			t.Errorf("Right(%v): %v", x, got)
		}
	}
}

// TestRightAll: of each kind with each two numbers, those may be that the document says.
func TestRightAll(t *testing.T) {
	may := right()
	if len(may) < 30 {
		t.Fatalf("only %d may be", len(may))
	}
	for _, x := range all() {
		if got := spec.Right(x); got != slices.Contains(may, x) {
			t.Errorf("Right(%v): %v", x, got)
		}
	}
}

// TestRightIsTold: what is Right is what One tells of some text, and just that.
func TestRightIsTold(t *testing.T) {
	for _, x := range all() {
		told, e := spec.One(strings.TrimPrefix(spec.Print([]api.Spec{x}), "bytes="))
		if spec.Right(x) != (e == api.OK && told == x) {
			t.Errorf("Right(%v): %v; One: %v, %d", x, spec.Right(x), told, e)
		}
	}
	for _, a := range digits() {
		for _, s := range []string{a + "-", "-" + a, a + "-" + a, "0-" + a, a + "-0", a + "-" + most} {
			if x, e := spec.One(s); spec.Right(x) != (e == api.OK) {
				t.Errorf("One(%.60q): %v, %d; Right: %v", s, x, e, spec.Right(x))
			}
		}
	}
}

func TestParse(t *testing.T) {
	reads(t, "bytes=0-4, -5", both(0, 4), last(5))
	reads(t, "bytes=0-499", both(0, 499))
	reads(t, "bytes=500-", from(500))
	reads(t, "bytes=-500", last(500))
	reads(t, "bytes=0-0", both(0, 0))
	reads(t, "bytes=0-", from(0))
	reads(t, "bytes=-0", last(0))
	reads(t, "bytes=0-0,-1", both(0, 0), last(1))
	reads(t, "bytes=007-008", both(7, 8))
	reads(t, "bytes="+most+"-", from(api.MaxNum))
	reads(t, "bytes="+most+"-"+most+",-"+most, both(api.MaxNum, api.MaxNum), last(api.MaxNum))
	// They stand in the order in which they were asked for, and none is left out.
	reads(t, "bytes=9-,5-6,1-2", from(9), both(5, 6), both(1, 2))
	reads(t, "bytes=1-2,1-2,1-3,1-2", both(1, 2), both(1, 2), both(1, 3), both(1, 2))
	reads(t, "bytes=-5,5-,-5", last(5), from(5), last(5))
}

// TestParseBlanks: blanks around the field and at commas.
func TestParseBlanks(t *testing.T) {
	reads(t, " bytes=0-4", both(0, 4))
	reads(t, "bytes=0-4 ", both(0, 4))
	reads(t, " \t bytes=0-4\t \t", both(0, 4))
	reads(t, "bytes=0-4 ,5-", both(0, 4), from(5))
	reads(t, "bytes=0-4, 5-", both(0, 4), from(5))
	reads(t, "bytes=0-4\t \t,\t \t5-", both(0, 4), from(5))
	reads(t, "bytes= ,0-4", both(0, 4)) // these are at a comma
	reads(t, "bytes=\t,\t0-4\t,\t", both(0, 4))
	reads(t, "bytes=0-4, ", both(0, 4))
	reads(t, strings.Repeat(" ", 999)+"bytes=0-4"+strings.Repeat("\t", 999)+","+strings.Repeat(" ", 999)+"-5", both(0, 4), last(5))
	for _, s := range []string{
		"bytes= 0-4", "bytes=\t0-4", "bytes =0-4", "bytes = 0-4", "bytes\t=0-4", "by tes=0-4", "bytes= 0-4,5-6", "bytes= 0-4,", "bytes= -5",
		"bytes=0 -4", "bytes=0- 4", "bytes=0 - 4", "bytes=- 5", "bytes=5 -", "bytes=1 2-3", "bytes=0-4 5-6", "bytes=1-2, 3 -4", "bytes=1-2,3- 4", "bytes=0-4,\t5\t-6",
		// of other bytes that look like blanks none is
		"\nbytes=0-4", "bytes=0-4\n", "bytes=0-4\r\n", "\r\nbytes=0-4", "bytes=0-4,\n5-6", "bytes=0-4\n,5-6", "bytes=0-4\x0b", "\x0cbytes=0-4", "\u00a0bytes=0-4", "bytes=0-4\u00a0", "bytes=0-4,\u00a05-", "bytes=0-4,\xa0", "bytes=\x00", "bytes=0-4\x00",
	} {
		refused(t, s, api.ErrForm)
	}
}

// TestParseEmpty: elements of nothing don't count, but one at least must be another.
func TestParseEmpty(t *testing.T) {
	for _, s := range []string{"bytes=0-4,", "bytes=,0-4", "bytes=,0-4,", "bytes=,,0-4", "bytes=0-4,,", "bytes=,,,0-4,,,", "bytes= , ,0-4, , ", "bytes=\t,,0-4,,\t,"} {
		reads(t, s, both(0, 4))
	}
	reads(t, "bytes=0-4,,5-", both(0, 4), from(5))
	reads(t, "bytes=0-4, , ,,\t,5-", both(0, 4), from(5))
	reads(t, "bytes="+strings.Repeat(",", 9999)+"-5"+strings.Repeat(" ,", 9999), last(5))
	for _, s := range []string{"bytes=", "bytes= ", " bytes=\t", "bytes=,", "bytes=,,", "bytes= ,", "bytes=, ", "bytes= , , ", "bytes=\t,\t", "BYTES=", "bytes=" + strings.Repeat(",", 9999), "bytes=" + strings.Repeat(" ", 9999)} {
		refused(t, s, api.ErrForm)
	}
}

// TestParseUnit: the unit in letters of any size, and what isn't it.
func TestParseUnit(t *testing.T) {
	for sizes := range 32 {
		unit := []byte("bytes")
		for i := range unit {
			if sizes>>i&1 == 1 {
				unit[i] -= 32
			}
		}
		reads(t, string(unit)+"=0-4,-5", both(0, 4), last(5))
	}
	for _, unit := range []string{
		"", "b", "byte", "bytess", "octets", "items", "seconds", "none", "*", "bits", "ytes", "bytes bytes", "bytesbytes", "\"bytes\"", "bytes;", "bytes,", ",bytes", "bytes:", "x-bytes", "bytes-x",
		"byteſ", "ｂｙｔｅｓ", "bytes\x00", "\x00bytes", "\xffbytes", "b\xd9tes", "\x42\x79\x54\x45\x13", "\xe2ytes", "2ytes", "\"ytes", "byt\x05s", "byt%s", "\ufeffbytes", "\u00a0bytes", "bytes\u00a0",
	} {
		refused(t, unit+"=0-4", api.ErrForm)
		refused(t, unit+"=", api.ErrForm)
	}
}

// TestParseEquals: one `=`, just behind the unit.
func TestParseEquals(t *testing.T) {
	for _, s := range []string{
		"", " ", "\t", "=", "==", "-", ",", "bytes", "BYTES", " bytes ", "bytes0-4", "bytes 0-4", "bytes:0-4", "bytes,0-4", "bytes-5", "0-4", "-5", "5-", "=0-4", " =0-4", "==0-4", "0-4=bytes", "0-4=",
		"bytes==0-4", "bytes=0-4=", "bytes=0=4", "bytes=0-4,=", "bytes=bytes=0-4", "bytes=0-4,bytes=5-", "bytes=0-4;5-6", "bytes=0-4 bytes=5-", "bytes＝0-4", "bytes 0-4/10", "bytes */10", "bytes=*", "bytes=0-4/10", "bytes=\"0-4\"",
	} {
		refused(t, s, api.ErrForm)
	}
}

// TestParseForm: an element that is no spec, alone and beside others that are, at each place.
func TestParseForm(t *testing.T) {
	for _, x := range []string{
		"-", "--", "--5", "5--", "1-2-3", "1--2", "5", "0", "x", "x-", "-x", "1-x", "x-1", "+1-", "-+1", "1-+2", "0x1-", "1.5-2", "*", "1 -", "- 1", "1 2-", "\x00", "\xff-", "1-2\x00", "é", "=", "1-2=", "bytes", "bytes=1-2",
		"3-1", "1-0", "10-9", "0010-9", most + "-4611686018427387902", over + "-" + most, far + "-3", far + "-" + over, far, far + "x-", "-" + far + "x",
	} {
		for _, list := range []string{x, x + ",0-4", "0-4," + x, "0-4," + x + ",-5", "0-4, " + x + " , -5", ",," + x + ",,", row("0-4", 15) + "," + x, row("0-4", 16) + "," + x} {
			refused(t, "bytes="+list, api.ErrForm)
		}
	}
}

func TestParseOver(t *testing.T) {
	for _, x := range []string{over + "-", "-" + over, "0-" + over, most + "-" + over, over + "-" + over, far + "-", "-" + far, "5-18446744073709551616", "3-" + far, far + "-" + far, noughts(50) + over + "-", "-1" + noughts(300)} {
		for _, list := range []string{x, x + ",0-4", "0-4," + x, "0-4," + x + ",-5", x + "," + x, ", " + x + " ,", row("0-4", 15) + "," + x} {
			refused(t, "bytes="+list, api.ErrOver)
			refused(t, "octets="+list, api.ErrForm)
			refused(t, "bytes= "+list+",", spaced(list))
		}
	}
}

// spaced is the error of a list with a blank ahead: that is only at a comma if nothing stands between.
func spaced(list string) api.Errno {
	if list[0] == ',' {
		return api.ErrOver
	}
	return api.ErrForm
}

// TestParseLong: 16 elements may be, 17 not; those of nothing don't count.
func TestParseLong(t *testing.T) {
	for n := 1; n <= 40; n++ {
		for s, x := range map[string]api.Spec{"1-": from(1), "0-0": both(0, 0), "-7": last(7)} {
			for _, list := range []string{row(s, n), row(s+" , ", n), "," + row(","+s+",", n) + ",", row(s, n) + strings.Repeat(",", 20)} {
				if n <= 16 {
					reads(t, "bytes="+list, slices.Repeat([]api.Spec{x}, n)...)
				} else {
					refused(t, "bytes="+list, api.ErrLong)
				}
			}
		}
	}
	refused(t, "bytes="+row("1-", 5000), api.ErrLong)
	refused(t, "items="+row("1-", 17), api.ErrForm)
	refused(t, "bytes= "+row("1-", 17), api.ErrForm)
}

// TestParseOrder: a wrong element counts ahead of one that is above MaxNum, and that ahead of too many; where they stand doesn't matter.
func TestParseOrder(t *testing.T) {
	for _, wrong := range []string{"x", "-", "3-1", "1-2-3", far + "-3", far + "x", "1 -"} {
		for _, great := range []string{far + "-", "-" + over, "0-" + over, over + "-" + far} {
			refused(t, "bytes="+wrong+","+great, api.ErrForm)
			refused(t, "bytes="+great+","+wrong, api.ErrForm)
			refused(t, "bytes="+great+",1-2,"+wrong+",3-4,"+great, api.ErrForm)
			for at := range 21 {
				refused(t, "bytes="+row("1-", at)+","+wrong+","+row("1-", 20-at), api.ErrForm)
				refused(t, "bytes="+row("1-", at)+","+great+","+row("1-", 20-at), api.ErrOver)
				refused(t, "bytes="+great+","+row("1-", at)+","+wrong+","+row("1-", 20-at), api.ErrForm)
				refused(t, "bytes="+wrong+","+row("1-", at)+","+great+","+row("1-", 20-at), api.ErrForm)
			}
		}
	}
	refused(t, "bytes="+row(far+"-", 16), api.ErrOver)
	refused(t, "bytes="+row(far+"-", 17), api.ErrOver)
	refused(t, "bytes="+row("x", 17), api.ErrForm)
	refused(t, "bytes="+row("1-", 5000)+",x", api.ErrForm)
	refused(t, "bytes="+row("1-", 5000)+","+far+"-", api.ErrOver)
}

// holds: Parse and Asked of s are what the pattern says.
func holds(t *testing.T, s string) {
	t.Helper()
	if want, errno := expected(s); errno == api.OK {
		reads(t, s, want...)
	} else {
		refused(t, s, errno)
	}
}

// TestParseEachByte: each byte at each place of some fields.
func TestParseEachByte(t *testing.T) {
	for c := range 256 {
		for _, s := range []string{"bytes=", "bytes=7-", "bytes=-7", "bytes=7-9", " bytes=7-9 , -5 ", "Bytes=" + far + "-,1-2"} {
			for at := range len(s) + 1 {
				holds(t, s[:at]+one(c)+s[at:])
				if at < len(s) {
					holds(t, s[:at]+one(c)+s[at+1:])
				}
			}
		}
	}
}

// TestParseAgainstPattern holds Parse against the grammar as a pattern, over all short lists of bytes that mean something, and others with great numbers.
func TestParseAgainstPattern(t *testing.T) {
	each("-1, 0", 6, func(s string) { holds(t, "bytes="+s) })
	each("-1,\t2=", 5, func(s string) { holds(t, "BYTES="+s) })
	each(" \t=bytes", 4, func(s string) {
		holds(t, s)
		holds(t, s+"bytes=1-2")
		holds(t, "bytes"+s+"1-2")
		holds(t, "bytes=1-2"+s)
	})
	for _, a := range digits() {
		for _, b := range digits() {
			holds(t, "bytes="+a+"-,-"+b)
			holds(t, "bytes=1-2 ,"+a+"-"+b)
			holds(t, "bytes="+a+"-"+b+","+b+"-"+a)
		}
	}
}

func TestPrint(t *testing.T) {
	for _, x := range []struct {
		l    []api.Spec
		want string
	}{
		{nil, "bytes="},
		{[]api.Spec{}, "bytes="},
		{[]api.Spec{from(0)}, "bytes=0-"},
		{[]api.Spec{from(7)}, "bytes=7-"},
		{[]api.Spec{from(api.MaxNum)}, "bytes=" + most + "-"},
		{[]api.Spec{both(0, 0)}, "bytes=0-0"},
		{[]api.Spec{both(0, 499)}, "bytes=0-499"},
		{[]api.Spec{both(9, 10)}, "bytes=9-10"},
		{[]api.Spec{both(api.MaxNum, api.MaxNum)}, "bytes=" + most + "-" + most},
		{[]api.Spec{last(0)}, "bytes=-0"},
		{[]api.Spec{last(500)}, "bytes=-500"},
		{[]api.Spec{last(api.MaxNum)}, "bytes=-" + most},
		{[]api.Spec{both(0, 4), last(5), from(7)}, "bytes=0-4,-5,7-"},
		{[]api.Spec{from(7), from(7), both(0, 4), from(7)}, "bytes=7-,7-,0-4,7-"},
		// others
		{[]api.Spec{{}}, "bytes=?"},
		{[]api.Spec{{Kind: 4}}, "bytes=?"},
		{[]api.Spec{{Kind: -1, First: 1, Last: 2}}, "bytes=?"},
		{[]api.Spec{{Kind: math.MaxInt}, {Kind: math.MinInt}}, "bytes=?,?"},
		{[]api.Spec{{}, both(1, 2), {Kind: 9}, last(3), {}}, "bytes=?,1-2,?,-3,?"},
		// The kind alone says how one prints, whether its numbers may be or not.
		{[]api.Spec{{Kind: api.SpecFrom, First: 1, Last: 2}}, "bytes=1-"},
		{[]api.Spec{{Kind: api.SpecLast, First: 1, Last: 2}}, "bytes=-1"},
		{[]api.Spec{both(3, 1)}, "bytes=3-1"},
		{[]api.Spec{from(-1), both(-2, -1), last(-3)}, "bytes=-1-,-2--1,--3"},
		{[]api.Spec{from(api.MaxNum + 1), last(math.MaxInt)}, "bytes=" + over + "-,-9223372036854775807"},
		{[]api.Spec{both(math.MinInt, math.MaxInt)}, "bytes=-9223372036854775808-9223372036854775807"},
		// As many as there are are printed.
		{slices.Repeat([]api.Spec{from(1)}, 17), "bytes=" + row("1-", 17)},
		{slices.Repeat([]api.Spec{both(1, 2)}, 5000), "bytes=" + row("1-2", 5000)},
	} {
		if got := spec.Print(x.l); got != x.want {
			t.Errorf("Print(%.80v): %.80q; want %.80q", x.l, got, x.want)
		}
	}
}

// TestPrintAll: each kind with each two numbers, one by one and all in a list.
func TestPrintAll(t *testing.T) {
	var parts []string
	for _, x := range all() {
		first, end := big.NewInt(int64(x.First)).String(), big.NewInt(int64(x.Last)).String()
		want := "?"
		switch x.Kind {
		case 1:
			want = first + "-"
		case 2:
			want = first + "-" + end
		case 3:
			want = "-" + first
		}
		if got := spec.Print([]api.Spec{x}); got != "bytes="+want {
			t.Errorf("Print(%v): %q; want %q", x, got, want)
		}
		parts = append(parts, want)
	}
	if got := spec.Print(all()); got != "bytes="+strings.Join(parts, ",") {
		t.Error("Print of all")
	}
}

// TestThereAndBack: one to 16 that are Right are read as they were printed.
func TestThereAndBack(t *testing.T) {
	may := right()
	for i := range may {
		for n := 1; n <= 16; n++ {
			var l []api.Spec
			for k := range n {
				l = append(l, may[(i+k*k*7)%len(may)])
			}
			reads(t, spec.Print(l), l...)
			reads(t, " "+strings.ReplaceAll(spec.Print(l), ",", " ,,\t"), l...)
		}
	}
	for _, x := range may {
		for _, y := range may {
			reads(t, spec.Print([]api.Spec{x, y}), x, y)
		}
	}
}

// TestNotBack: what isn't Right, none, and more than 16 aren't read as they were printed.
func TestNotBack(t *testing.T) {
	refused(t, spec.Print(nil), api.ErrForm)
	refused(t, spec.Print(slices.Repeat([]api.Spec{both(1, 2)}, 17)), api.ErrLong)
	for _, x := range all() {
		if spec.Right(x) {
			continue
		}
		l, _ := spec.Parse(spec.Print([]api.Spec{x}))
		m, _ := spec.Parse(spec.Print([]api.Spec{both(1, 2), x}))
		if slices.Contains(l, x) || slices.Contains(m, x) {
			t.Errorf("%v was read", x)
		}
	}
}

// TestParseThenPrint: what is read is Right, and prints as the shortest way to write it, which is read again.
func TestParseThenPrint(t *testing.T) {
	for s, want := range map[string]string{
		" Bytes=0-4, -5 ,, 007-": "bytes=0-4,-5,7-",
		"BYTES=00-00":            "bytes=0-0",
		"bytes=-000,":            "bytes=-0",
	} {
		l := spec.Asked(s)
		if got := spec.Print(l); got != want || slices.ContainsFunc(l, func(x api.Spec) bool { return !spec.Right(x) }) {
			t.Errorf("%q: %v, %q; want %q", s, l, got, want)
		}
		reads(t, want, l...)
	}
}

// TestOwnMemory: a list that is given stays as it is, also behind its length; two answers share nothing.
func TestOwnMemory(t *testing.T) {
	whole := []api.Spec{from(1), both(2, 3), last(4), {Kind: 9, First: 9, Last: 9}}
	before := slices.Clone(whole)
	if got := spec.Print(whole[:2]); got != "bytes=1-,2-3" || !slices.Equal(whole, before) {
		t.Errorf("%q, %v", got, whole)
	}
	if got := spec.Print(whole[:0]); got != "bytes=" {
		t.Errorf("%q", got)
	}
	for _, parse := range []func(string) []api.Spec{spec.Asked, func(s string) []api.Spec { l, _ := spec.Parse(s); return l }} {
		a, b := parse("bytes=1-,2-3,-4"), parse("bytes=1-,2-3,-4")
		for _, x := range a[len(a):cap(a)] {
			if x != (api.Spec{}) {
				t.Errorf("behind the length: %v", x)
			}
		}
		a = a[:cap(a)]
		for i := range a {
			a[i] = api.Spec{Kind: 9, First: 9, Last: 9}
		}
		if want := before[:3]; !slices.Equal(b, want) || !slices.Equal(parse("bytes=1-,2-3,-4"), want) {
			t.Errorf("%v", b)
		}
	}
}

// TestLongTexts: any text may come, also a very long one.
func TestLongTexts(t *testing.T) {
	const many = 1 << 20
	nines := strings.Repeat("9", many)
	refused(t, strings.Repeat("=", many), api.ErrForm)
	refused(t, strings.Repeat("bytes=", many/4), api.ErrForm)
	refused(t, "bytes="+strings.Repeat("-", many), api.ErrForm)
	refused(t, "bytes="+strings.Repeat(",", many), api.ErrForm)
	refused(t, "bytes="+strings.Repeat("-,", many), api.ErrForm)
	refused(t, "bytes="+strings.Repeat("1-,", many), api.ErrLong)
	refused(t, "bytes="+nines+"-", api.ErrOver)
	refused(t, "bytes="+nines+"-"+nines, api.ErrOver)
	refused(t, "bytes="+nines+"-"+nines[1:], api.ErrForm)
	refused(t, "bytes="+nines+"-"+nines[1:]+"8", api.ErrForm)
	reads(t, strings.Repeat(" ", many)+"bytes="+noughts(many)+"1-"+noughts(many)+"2"+strings.Repeat("\t", many), both(1, 2))
	if got := spec.Print(make([]api.Spec, many)); got != "bytes="+row("?", many) {
		t.Error("a long list")
	}
}

// TestSameAnswers: an answer hangs on the arguments alone, not on the calls ahead of it.
func TestSameAnswers(t *testing.T) {
	for range 3 {
		reads(t, "bytes=0-4, -5", both(0, 4), last(5))
		refused(t, "bytes=x", api.ErrForm)
		refused(t, "bytes=-"+over, api.ErrOver)
		refused(t, "bytes="+row("1-", 17), api.ErrLong)
		reads(t, "bytes="+row("1-", 16), slices.Repeat([]api.Spec{from(1)}, 16)...)
		tells(t, "7-", from(7))
		refusedOne(t, "7", api.ErrForm)
		refusedOne(t, "0-"+over, api.ErrOver)
		if !spec.Right(last(0)) || spec.Right(last(-1)) || spec.Print([]api.Spec{from(1), {}}) != "bytes=1-,?" {
			t.Error("Right or Print")
		}
	}
}
