package nums_test

import (
	"bytes"
	"math"
	"math/big"
	"strings"
	"testing"

	"spence/api"
	"spence/nums"
)

// edges are numbers at which something that an int or a limit can do begins or ends.
func edges() []int {
	var l []int
	for _, n := range []int{0, 10, 1000, math.MaxInt32, math.MaxUint32, math.MaxInt64 / 4, api.MaxNum, math.MaxInt - 3, math.MinInt + 3} {
		for d := -3; d <= 3; d++ {
			l = append(l, n+d, -n+d)
		}
	}
	return l
}

func TestParse(t *testing.T) {
	for s, want := range map[string]int{
		"0":                           0,
		"7":                           7,
		"9":                           9,
		"10":                          10,
		"1234567890":                  1234567890,
		"00":                          0,
		"007":                         7,
		"010":                         10,
		"08":                          8,
		"4611686018427387902":         api.MaxNum - 1,
		"4611686018427387903":         api.MaxNum,
		"000004611686018427387903":    api.MaxNum,
		strings.Repeat("0", 5000):     0,
		zeros(5000) + "42":            42,
		zeros(300) + "46116860184273": 46116860184273,
	} {
		if n, e := nums.Parse(s); n != want || e != api.OK {
			t.Errorf("Parse(%.40q): %d, %d; want %d", s, n, e, want)
		}
	}
}

func zeros(n int) string { return strings.Repeat("0", n) }

func TestParseForm(t *testing.T) {
	far := strings.Repeat("9", 400)
	for _, s := range []string{
		"", " ", "-", "+", "-1", "+1", "-0", " 1", "1 ", "1\t", "\n1", "1\n", "1\r\n", "1 2", "1,2", "1-2", "1.", "1.0", ".5",
		"0x10", "1e3", "1_000", "ten", "a", "F", "\x00", "1\x00", "\x001", "\xff", "1\xb2", "½", "٣", "１", "4²",
		// What is no digit counts ahead of what is too great, wherever it stands.
		"4611686018427387904x", "x4611686018427387904", "46116860184273879x04", "-4611686018427387904",
		far + "x", "x" + far, far + " ", far + "x" + far, far + "-", far + "\xff",
	} {
		if n, e := nums.Parse(s); n != 0 || e != api.ErrForm {
			t.Errorf("Parse(%.40q): %d, %d; want ErrForm", s, n, e)
		}
	}
}

func TestParseEachByte(t *testing.T) {
	for c := range 256 {
		b := string([]byte{byte(c)})
		digit := '0' <= c && c <= '9'
		for _, s := range []string{b, b + "1", "1" + b, "1" + b + "1"} {
			n, e := nums.Parse(s)
			if digit && (e != api.OK || nums.Print(n) != strings.TrimLeft(s[:len(s)-1], "0")+s[len(s)-1:]) {
				t.Errorf("Parse(%q): %d, %d", s, n, e)
			}
			if !digit && (n != 0 || e != api.ErrForm) {
				t.Errorf("Parse(%q): %d, %d; want ErrForm", s, n, e)
			}
		}
	}
}

func TestParseOver(t *testing.T) {
	for _, s := range []string{
		"4611686018427387904",  // one more than may be
		"4611686018427387910",  // the last digit alone isn't what is too great
		"5000000000000000000",  // as many digits, a greater first one
		"9223372036854775807",  // 2^63 - 1
		"9223372036854775808",  // 2^63
		"13835058055282163712", // 3 times 2^62
		"18446744073709551615", // 2^64 - 1
		"18446744073709551616", // 2^64, which wraps round to 0
		"18446744073709551621", // 2^64 + 5
		"36893488147419103232", // 2^65
		"46116860184273879030", // MaxNum, and a nought behind
		"99999999999999999999",
		"10000000000000000000",
		"00004611686018427387904",
		zeros(5000) + "4611686018427387904",
		"1" + zeros(5000),
		strings.Repeat("9", 5000),
	} {
		if n, e := nums.Parse(s); n != 0 || e != api.ErrOver {
			t.Errorf("Parse(%.40q): %d, %d; want ErrOver", s, n, e)
		}
	}
}

// TestParseAgainstBig holds Parse against numbers without a limit, around all powers of 2 and of 10.
func TestParseAgainstBig(t *testing.T) {
	most := big.NewInt(api.MaxNum)
	for _, base := range []int64{2, 10} {
		for power := range int64(140) {
			x := new(big.Int).Exp(big.NewInt(base), big.NewInt(power), nil)
			for d := int64(-12); d <= 12; d++ {
				y := new(big.Int).Add(x, big.NewInt(d))
				if y.Sign() < 0 {
					continue
				}
				want, errno := 0, api.ErrOver
				if y.Cmp(most) <= 0 {
					want, errno = int(y.Int64()), api.OK
				}
				for _, ahead := range []string{"", "0", "000"} {
					if n, e := nums.Parse(ahead + y.String()); n != want || e != errno {
						t.Fatalf("Parse(%s%s): %d, %d; want %d, %d", ahead, y, n, e, want, errno)
					}
				}
			}
		}
	}
}

func TestPrint(t *testing.T) {
	for n, want := range map[int]string{
		0: "0", 1: "1", 9: "9", 10: "10", 100: "100", 1007: "1007", -1: "-1", -9: "-9", -10: "-10", -700: "-700",
		api.MaxNum: "4611686018427387903", api.MaxNum + 1: "4611686018427387904", -api.MaxNum: "-4611686018427387903",
		math.MaxInt: "9223372036854775807", math.MinInt: "-9223372036854775808", math.MinInt + 1: "-9223372036854775807",
	} {
		if s := nums.Print(n); s != want {
			t.Errorf("Print(%d): %q; want %q", n, s, want)
		}
	}
	for _, n := range edges() {
		if s, want := nums.Print(n), big.NewInt(int64(n)).String(); s != want {
			t.Errorf("Print: %q; want %q", s, want)
		}
	}
}

func TestPrintThenParse(t *testing.T) {
	check := func(n int) {
		back, e := nums.Parse(nums.Print(n))
		switch {
		case n < 0 && (back != 0 || e != api.ErrForm):
			t.Errorf("%d: %d, %d; want ErrForm", n, back, e)
		case n > api.MaxNum && (back != 0 || e != api.ErrOver):
			t.Errorf("%d: %d, %d; want ErrOver", n, back, e)
		case nums.Fits(n, 0, api.MaxNum) && (back != n || e != api.OK):
			t.Errorf("%d: %d, %d", n, back, e)
		}
	}
	for n := -1100; n <= 1100; n++ {
		check(n)
	}
	for _, n := range edges() {
		check(n)
	}
}

func TestAdd(t *testing.T) {
	for _, c := range []struct {
		a, b, sum int
		errno     api.Errno
	}{
		{0, 0, 0, api.OK},
		{2, 3, 5, api.OK},
		{api.MaxNum, 0, api.MaxNum, api.OK},
		{0, api.MaxNum, api.MaxNum, api.OK},
		{api.MaxNum - 1, 1, api.MaxNum, api.OK},
		{1 << 61, 1<<61 - 1, api.MaxNum, api.OK},
		{api.MaxNum, 1, 0, api.ErrOver},
		{1, api.MaxNum, 0, api.ErrOver},
		{1 << 61, 1 << 61, 0, api.ErrOver},
		{api.MaxNum, api.MaxNum, 0, api.ErrOver},
		{-1, 1, 0, api.ErrArg},
		{1, -1, 0, api.ErrArg},
		{-1, -1, 0, api.ErrArg},
		{-1, api.MaxNum, 0, api.ErrArg},
		{api.MaxNum, -1, 0, api.ErrArg},
		{api.MaxNum + 1, 0, 0, api.ErrArg},
		{0, api.MaxNum + 1, 0, api.ErrArg},
		{api.MaxNum + 1, -1, 0, api.ErrArg},
		{-1, api.MaxNum + 1, 0, api.ErrArg},
		{api.MaxNum + 1, api.MaxNum, 0, api.ErrArg},
		{math.MaxInt, math.MaxInt, 0, api.ErrArg},
		{math.MinInt, math.MinInt, 0, api.ErrArg},
		{math.MaxInt, math.MinInt, 0, api.ErrArg},
		{math.MinInt, 0, 0, api.ErrArg},
		{0, math.MinInt, 0, api.ErrArg},
	} {
		if n, e := nums.Add(c.a, c.b); n != c.sum || e != c.errno {
			t.Errorf("Add(%d, %d): %d, %d; want %d, %d", c.a, c.b, n, e, c.sum, c.errno)
		}
	}
}

func TestAddAgainstBig(t *testing.T) {
	most := big.NewInt(api.MaxNum)
	for _, a := range edges() {
		for _, b := range edges() {
			sum := new(big.Int).Add(big.NewInt(int64(a)), big.NewInt(int64(b)))
			want, errno := 0, api.OK
			switch {
			case a < 0 || b < 0 || a > api.MaxNum || b > api.MaxNum:
				errno = api.ErrArg
			case sum.Cmp(most) > 0:
				errno = api.ErrOver
			default:
				want = int(sum.Int64())
			}
			if n, e := nums.Add(a, b); n != want || e != errno {
				t.Errorf("Add(%d, %d): %d, %d; want %d, %d", a, b, n, e, want, errno)
			}
		}
	}
}

func TestFits(t *testing.T) {
	for _, c := range []struct {
		n, least, most int
		fits           bool
	}{
		{3, 1, 5, true},
		{3, 3, 3, true},
		{3, 3, 5, true},
		{3, 1, 3, true},
		{2, 3, 5, false},
		{6, 3, 5, false},
		{4, 5, 3, false}, // nothing is from 5 to 3
		{5, 5, 3, false},
		{3, 5, 3, false},
		{-4, -5, -3, true},
		{-6, -5, -3, false},
		{-2, -5, -3, false},
		{0, 0, api.MaxNum, true},
		{-1, 0, api.MaxNum, false},
		{api.MaxNum, 0, api.MaxNum, true},
		{api.MaxNum + 1, 0, api.MaxNum, false},
		{math.MinInt, math.MinInt, math.MaxInt, true},
		{math.MaxInt, math.MinInt, math.MaxInt, true},
		{math.MaxInt, math.MinInt, -1, false}, // a difference would wrap round
		{math.MinInt, 1, math.MaxInt, false},
		{0, math.MaxInt, math.MinInt, false},
	} {
		if f := nums.Fits(c.n, c.least, c.most); f != c.fits {
			t.Errorf("Fits(%d, %d, %d): %v", c.n, c.least, c.most, f)
		}
	}
}

func TestPut(t *testing.T) {
	for _, c := range []struct {
		b     string
		n     uint64
		bytes int
		want  string
	}{
		{"", 0x1234, 2, "\x12\x34"},
		{"", 0x1234, 1, "\x34"},
		{"", 0x1234, 3, "\x00\x12\x34"},
		{"ab", 0x1234, 3, "ab\x00\x12\x34"},
		{"ab", 0x1234, 0, "ab"},
		{"", 0x1234, 0, ""},
		{"\x00\xff", 0, 4, "\x00\xff\x00\x00\x00\x00"},
		{"a", 0x0102030405060708, 8, "a\x01\x02\x03\x04\x05\x06\x07\x08"},
		{"a", 0x0102030405060708, 7, "a\x02\x03\x04\x05\x06\x07\x08"},
		{"a", 0x0102030405060708, 9, "a\x01\x02\x03\x04\x05\x06\x07\x08"},
		{"a", 0x0102030405060708, math.MaxInt, "a\x01\x02\x03\x04\x05\x06\x07\x08"},
		{"a", 0x0102030405060708, -1, "a"},
		{"a", 0x0102030405060708, -8, "a"},
		{"a", 0x0102030405060708, math.MinInt, "a"},
		{"", math.MaxUint64, 8, "\xff\xff\xff\xff\xff\xff\xff\xff"},
		{"", math.MaxUint64, 3, "\xff\xff\xff"},
		{"", 1 << 63, 8, "\x80\x00\x00\x00\x00\x00\x00\x00"},
	} {
		b := []byte(c.b)
		if got := nums.Put(b, c.n, c.bytes); string(got) != c.want {
			t.Errorf("Put(%q, %x, %d): %q; want %q", c.b, c.n, c.bytes, got, c.want)
		}
		if string(b) != c.b {
			t.Errorf("Put(%q, %x, %d) changed what it was given: %q", c.b, c.n, c.bytes, b)
		}
	}
	if got := nums.Put(nil, 0xabcd, 2); string(got) != "\xab\xcd" {
		t.Errorf("Put(nil): %q", got)
	}
	if got := nums.Put(nil, 0xabcd, 0); len(got) != 0 {
		t.Errorf("Put(nil, 0 bytes): %q", got)
	}
}

// TestPutOwnMemory: what Put is given, what lies behind that, and what Put answers share nothing.
func TestPutOwnMemory(t *testing.T) {
	for bytes := -1; bytes <= 9; bytes++ {
		for _, length := range []int{0, 1, 5} {
			whole := []byte("abcdefghijklmnopqrst")
			first := nums.Put(whole[:length], 0x0102030405060708, bytes)
			second := nums.Put(whole[:length], 0x1112131415161718, bytes)
			if string(whole) != "abcdefghijklmnopqrst" {
				t.Fatalf("%d, %d: written behind the length: %q", length, bytes, whole)
			}
			kept := string(second)
			spoil(first)
			if string(whole) != "abcdefghijklmnopqrst" {
				t.Fatalf("%d, %d: the answer shares memory with the argument: %q", length, bytes, whole)
			}
			if string(second) != kept {
				t.Fatalf("%d, %d: two answers share memory", length, bytes)
			}
			spoil(whole)
			if string(second) != kept {
				t.Fatalf("%d, %d: the argument is kept in the answer", length, bytes)
			}
		}
	}
}

// spoil overwrites all of b, and what its memory has behind its length.
func spoil(b []byte) {
	for i := range b[:cap(b)] {
		b[:cap(b)][i] = '!'
	}
}

func TestGet(t *testing.T) {
	b := []byte{0x01, 0x02, 0x83, 0x04, 0x05, 0x06, 0x07, 0x08, 0xff}
	for _, c := range []struct {
		at, bytes int
		n         uint64
		is        bool
	}{
		{0, 1, 0x01, true},
		{0, 2, 0x0102, true},
		{2, 1, 0x83, true},
		{2, 3, 0x830405, true},
		{0, 8, 0x0102830405060708, true},
		{1, 8, 0x02830405060708ff, true},
		{8, 1, 0xff, true},
		{7, 2, 0x08ff, true},
		{0, 0, 0, true},
		{5, 0, 0, true},
		{9, 0, 0, true}, // just behind the last byte there are none, and none are asked for
		{9, 1, 0, false},
		{8, 2, 0, false},
		{2, 8, 0, false},
		{10, 0, 0, false},
		{10, 1, 0, false},
		{-1, 0, 0, false},
		{-1, 1, 0, false},
		{-1, 2, 0, false},
		{0, 9, 0, false},
		{0, -1, 0, false},
		{5, -1, 0, false},
		{9, -1, 0, false},
		{10, -1, 0, false},
		{0, math.MaxInt, 0, false},
		{0, math.MinInt, 0, false},
		{math.MaxInt, 0, 0, false},
		{math.MaxInt, 1, 0, false},
		{math.MaxInt, 8, 0, false},
		{math.MinInt, 0, 0, false},
		{math.MinInt, 8, 0, false},
		{math.MaxInt, math.MaxInt, 0, false},
		{math.MinInt, math.MinInt, 0, false},
		{math.MaxInt, math.MinInt, 0, false},
	} {
		if n, is := nums.Get(b, c.at, c.bytes); n != c.n || is != c.is {
			t.Errorf("Get(%d, %d): %x, %v; want %x, %v", c.at, c.bytes, n, is, c.n, c.is)
		}
	}
	if string(b) != "\x01\x02\x83\x04\x05\x06\x07\x08\xff" {
		t.Errorf("Get changed what it was given: %x", b)
	}
}

// TestGetOfNothing: nil and an empty list are the same, and what lies behind the length isn't read.
func TestGetOfNothing(t *testing.T) {
	whole := []byte{1, 2, 3, 4, 5, 6, 7, 8, 9}
	for _, b := range [][]byte{nil, {}, whole[:0], whole[4:4]} {
		if n, is := nums.Get(b, 0, 0); n != 0 || !is {
			t.Errorf("Get(%v, 0, 0): %d, %v", b, n, is)
		}
		for _, at := range []int{-1, 0, 1} {
			for _, bytes := range []int{1, 2, 8} {
				if n, is := nums.Get(b, at, bytes); n != 0 || is {
					t.Errorf("Get(%v, %d, %d): %d, %v", b, at, bytes, n, is)
				}
			}
		}
	}
	if n, is := nums.Get(whole[:3], 2, 2); n != 0 || is {
		t.Errorf("read behind the length: %d, %v", n, is)
	}
}

func TestPutThenGet(t *testing.T) {
	for _, e := range edges() {
		n := uint64(e)
		for count := range 9 {
			want := n
			if count < 8 {
				want = n & (1<<(8*count) - 1)
			}
			for _, ahead := range []string{"", "x", "abc"} {
				b := nums.Put([]byte(ahead), n, count)
				if len(b) != len(ahead)+count || !bytes.HasPrefix(b, []byte(ahead)) {
					t.Fatalf("Put(%q, %x, %d): %q", ahead, n, count, b)
				}
				if got, is := nums.Get(b, len(ahead), count); got != want || !is {
					t.Fatalf("Put(%q, %x, %d), Get: %x, %v; want %x", ahead, n, count, got, is, want)
				}
				if got := nums.Put([]byte(ahead), want, count); !bytes.Equal(got, b) {
					t.Fatalf("Put(%q, %x, %d): %q; want %q", ahead, want, count, got, b)
				}
			}
		}
	}
}

// TestSameAnswers: an answer hangs on the arguments alone, not on the calls ahead of it.
func TestSameAnswers(t *testing.T) {
	for range 3 {
		if n, e := nums.Parse("x9"); n != 0 || e != api.ErrForm {
			t.Error(n, e)
		}
		if n, e := nums.Parse("4611686018427387904"); n != 0 || e != api.ErrOver {
			t.Error(n, e)
		}
		if n, e := nums.Parse("12"); n != 12 || e != api.OK {
			t.Error(n, e)
		}
		if n, e := nums.Add(api.MaxNum, 2); n != 0 || e != api.ErrOver {
			t.Error(n, e)
		}
		if n, e := nums.Add(1, 2); n != 3 || e != api.OK {
			t.Error(n, e)
		}
		if b := nums.Put([]byte("a"), 0x6263, 2); string(b) != "abc" {
			t.Errorf("%q", b)
		}
		if n, is := nums.Get([]byte("abc"), 1, 2); n != 0x6263 || !is {
			t.Error(n, is)
		}
	}
}
