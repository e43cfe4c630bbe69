package crc_test

import (
	"bytes"
	"compress/gzip"
	"encoding/binary"
	"hash/crc32"
	"testing"

	"spence/api"
	"spence/crc"
)

// registers are values of c at which some bit of it begins or ends.
func registers() []uint32 {
	l := []uint32{0, 5, 0xEDB88320, 0x04C11DB7, 0x12345678, 0xDEADBEEF, 0xFFFFFFFF, 0xFFFFFF00, 0x00FFFFFF}
	for bit := range 32 {
		l = append(l, 1<<bit, 1<<bit-1, ^uint32(1<<bit))
	}
	return l
}

// some are so many bytes without a short rule in them.
func some(length int) []byte {
	b := make([]byte, length)
	x := uint32(2463534242)
	for i := range b {
		x ^= x << 13
		x ^= x >> 17
		x ^= x << 5
		b[i] = byte(x >> 11)
	}
	return b
}

// samples are bytes of many lengths: ordinary ones, and the edges.
func samples() [][]byte {
	l := [][]byte{
		nil, {}, {0}, {0xff}, {0x80}, {1},
		[]byte("abc"), []byte("123456789"), []byte("what \x00 is \xff here"),
		make([]byte, 32), bytes.Repeat([]byte{0xff}, 32),
	}
	for _, length := range []int{1, 2, 3, 4, 5, 7, 8, 9, 15, 16, 63, 64, 65, 255, 256, 257, 4096} {
		l = append(l, some(length))
	}
	return l
}

// register is what a register becomes, told by the library, which turns its bits at both ends.
func register(c uint32, b []byte) uint32 { return ^crc32.Update(^c, crc32.IEEETable, b) }

func TestNext(t *testing.T) {
	for _, x := range []struct {
		c    uint32
		b    byte
		want uint32
	}{
		{0, 0, 0},
		{0, 1, 0x77073096},
		{0, 2, 0xEE0E612C},
		{0, 3, 0x990951BA},
		{0, 0x80, 0xEDB88320},
		{0, 0xff, 0x2D02EF8D},
		{1, 0, 0x77073096},
		{0xff, 0xff, 0},
		{0x100, 0, 1}, // only the lowest byte falls out
		{0x100, 0x80, 0xEDB88321},
		{0x80000000, 0, 0x00800000},
		{0xFFFFFFFF, 0, 0x2DFD1072},
		{0xFFFFFFFF, 0xff, 0x00FFFFFF},
	} {
		if c := crc.Next(x.c, x.b); c != x.want {
			t.Errorf("Next(%08X, %02X): %08X; want %08X", x.c, x.b, c, x.want)
		}
	}
}

// TestNextEachByte holds Next against the library, at all bytes.
func TestNextEachByte(t *testing.T) {
	for _, c := range registers() {
		for b := range 256 {
			if got, want := crc.Next(c, byte(b)), register(c, []byte{byte(b)}); got != want {
				t.Errorf("Next(%08X, %02X): %08X; want %08X", c, b, got, want)
			}
		}
	}
}

// TestNextApart: a byte that is another one makes another register, and so does another register.
func TestNextApart(t *testing.T) {
	for _, c := range registers() {
		seen := map[uint32]int{}
		for b := range 256 {
			x := crc.Next(c, byte(b))
			if other, is := seen[x]; is {
				t.Errorf("Next(%08X): %02X and %02X both make %08X", c, other, b, x)
			}
			seen[x] = b
		}
	}
	seen := map[uint32]uint32{}
	for _, c := range registers() {
		x := crc.Next(c, 0xa5)
		if other, is := seen[x]; is && other != c {
			t.Errorf("Next: %08X and %08X both make %08X", other, c, x)
		}
		seen[x] = c
	}
}

func TestMany(t *testing.T) {
	for _, c := range registers() {
		for _, b := range samples() {
			if got, want := crc.Many(c, b), register(c, b); got != want {
				t.Fatalf("Many(%08X, %.20x): %08X; want %08X", c, b, got, want)
			}
		}
		for _, none := range [][]byte{nil, {}, some(9)[4:4]} {
			if got := crc.Many(c, none); got != c {
				t.Errorf("Many(%08X, no bytes): %08X", c, got)
			}
		}
	}
}

// TestManyInParts: Many goes byte by byte, so it may be left and gone on with at any byte.
func TestManyInParts(t *testing.T) {
	b := some(70)
	for _, c := range registers() {
		step := c
		for at := range b {
			if got, want := crc.Many(crc.Many(c, b[:at]), b[at:]), crc.Many(c, b); got != want {
				t.Fatalf("%08X, parted at %d: %08X; want %08X", c, at, got, want)
			}
			if got := crc.Many(c, b[:at]); got != step {
				t.Fatalf("%08X, %d bytes: %08X; byte by byte %08X", c, at, got, step)
			}
			step = crc.Next(step, b[at])
		}
	}
}

func TestSum(t *testing.T) {
	for s, want := range map[string]uint32{
		"":                 0,
		"\x00":             0xD202EF8D,
		"\xff":             0xFF000000,
		"a":                0xE8B7BE43,
		"abc":              0x352441C2,
		"123456789":        0xCBF43926,
		"\x00\x00\x00\x00": 0x2144DF1C,
		"\xff\xff\xff\xff": 0xFFFFFFFF,
		"The quick brown fox jumps over the lazy dog": 0x414FA339,
		string(make([]byte, 32)):                      0x190A55AD,
		string(bytes.Repeat([]byte{0xff}, 32)):        0xFF6CAB0B,
	} {
		if got := crc.Sum([]byte(s)); got != want {
			t.Errorf("Sum(%q): %08X; want %08X", s, got, want)
		}
	}
	if got := crc.Sum(nil); got != 0 {
		t.Errorf("Sum(nil): %08X", got)
	}
}

func TestSumAgainstLibrary(t *testing.T) {
	for _, b := range append(samples(), some(1<<20)) {
		if got, want := crc.Sum(b), crc32.ChecksumIEEE(b); got != want {
			t.Errorf("Sum(%.20x): %08X; want %08X", b, got, want)
		}
		if got, want := crc.Sum(b), ^crc.Many(0xFFFFFFFF, b); got != want {
			t.Errorf("Sum(%.20x): %08X; of Many %08X", b, got, want)
		}
	}
}

func TestSeal(t *testing.T) {
	for s, want := range map[string]string{
		"":                 "\x00\x00\x00\x00",
		"\x00":             "\x00\x8D\xEF\x02\xD2",
		"a":                "a\x43\xBE\xB7\xE8",
		"abc":              "abc\xC2\x41\x24\x35",
		"123456789":        "123456789\x26\x39\xF4\xCB",
		"\x00\x00\x00\x00": "\x00\x00\x00\x00\x1C\xDF\x44\x21",
		"\xff\xff\xff\xff": "\xff\xff\xff\xff\xff\xff\xff\xff",
	} {
		if got := crc.Seal([]byte(s)); string(got) != want {
			t.Errorf("Seal(%q): %x; want %x", s, got, want)
		}
	}
	if got := crc.Seal(nil); string(got) != "\x00\x00\x00\x00" {
		t.Errorf("Seal(nil): %x", got)
	}
	for _, b := range samples() {
		want := binary.LittleEndian.AppendUint32(bytes.Clone(b), crc32.ChecksumIEEE(b))
		if got := crc.Seal(b); !bytes.Equal(got, want) {
			t.Errorf("Seal(%.20x): ends with %x; want %x", b, got[len(b):], want[len(b):])
		}
	}
}

// TestSealAsGzip: gzip lays the sum of what it holds, the lowest byte first, ahead of the last four bytes.
func TestSealAsGzip(t *testing.T) {
	for _, b := range samples() {
		var file bytes.Buffer
		w := gzip.NewWriter(&file)
		if _, err := w.Write(b); err != nil {
			t.Fatal(err)
		}
		if err := w.Close(); err != nil {
			t.Fatal(err)
		}
		want := file.Bytes()[file.Len()-8 : file.Len()-4]
		if got := crc.Seal(b)[len(b):]; !bytes.Equal(got, want) {
			t.Errorf("Seal(%.20x): ends with %x; gzip has %x", b, got, want)
		}
	}
}

func TestOpen(t *testing.T) {
	for s, want := range map[string]string{
		"\x00\x00\x00\x00":                 "",
		"\x00\x8D\xEF\x02\xD2":             "\x00",
		"abc\xC2\x41\x24\x35":              "abc",
		"123456789\x26\x39\xF4\xCB":        "123456789",
		"\x00\x00\x00\x00\x1C\xDF\x44\x21": "\x00\x00\x00\x00",
		"\xff\xff\xff\xff\xff\xff\xff\xff": "\xff\xff\xff\xff",
	} {
		if got, e := crc.Open([]byte(s)); string(got) != want || e != api.OK {
			t.Errorf("Open(%x): %x, %d; want %x", s, got, e, want)
		}
	}
}

// refused: Open of b is that error, and no bytes.
func refused(t *testing.T, b []byte, want api.Errno) {
	t.Helper()
	if got, e := crc.Open(b); got != nil || e != want {
		t.Errorf("Open(%.20x): %.20x, %d; want none, %d", b, got, e, want)
	}
}

func TestOpenForm(t *testing.T) {
	whole := crc.Seal([]byte("abcdef"))
	for length := range 4 {
		refused(t, whole[:length], api.ErrForm) // more lies behind the length
		refused(t, make([]byte, length), api.ErrForm)
		refused(t, bytes.Repeat([]byte{0xff}, length), api.ErrForm)
	}
	refused(t, nil, api.ErrForm)
	for one := range 256 {
		refused(t, []byte{byte(one)}, api.ErrForm)
	}
}

func TestOpenSum(t *testing.T) {
	for _, s := range []string{
		"abcd",
		"\x00\x00\x00\x01",
		"\x01\x00\x00\x00",
		"\xff\xff\xff\xff",                 // a register's start is no sum
		"\x00\x00\x00\x00\x00",             // the sum of no bytes, of one
		"\x00\x00\x00\x00\x00\x00\x00\x00", // noughts aren't their own sum
		"abc\x35\x24\x41\xC2",              // the highest first
		"\xC2\x41\x24\x35abc",              // the sum ahead
		"abc\x3D\xBE\xDB\xCA",              // bits that aren't turned
		"abd\xC2\x41\x24\x35",
		"ab\xC2\x41\x24\x35",
		"acb\xC2\x41\x24\x35",
		"abc\x00\xC2\x41\x24\x35",
		"\x00abc\xC2\x41\x24\x35",
		"abc\xC2\x41\x24\x35\x00",
		"abc\xC2\x41\x24",
	} {
		refused(t, []byte(s), api.ErrSum)
	}
}

// TestOpenJustFour: of four bytes, which have none ahead, only four noughts are sealed.
func TestOpenJustFour(t *testing.T) {
	if got, e := crc.Open(make([]byte, 4)); len(got) != 0 || e != api.OK {
		t.Errorf("four noughts: %x, %d", got, e)
	}
	for bit := range 32 {
		refused(t, binary.LittleEndian.AppendUint32(nil, 1<<bit), api.ErrSum)
	}
}

func TestSealThenOpen(t *testing.T) {
	for _, b := range samples() {
		sealed := crc.Seal(b)
		if got, e := crc.Open(sealed); !bytes.Equal(got, b) || e != api.OK {
			t.Errorf("%.20x: Open of Seal: %.20x, %d", b, got, e)
		}
		again := crc.Seal(sealed)
		if got, e := crc.Open(again); !bytes.Equal(got, sealed) || e != api.OK {
			t.Errorf("%.20x: Open of Seal of Seal: %.20x, %d", b, got, e)
		}
	}
}

// others tells b with each byte in turn as each other one; it is the same memory each time.
func others(b []byte, tell func(other []byte, at int)) {
	other := bytes.Clone(b)
	for at := range other {
		for x := 1; x < 256; x++ {
			other[at] = b[at] ^ byte(x)
			tell(other, at)
		}
		other[at] = b[at]
	}
}

// TestOneByte: P2.3, at all bytes of all samples that aren't too long for it.
func TestOneByte(t *testing.T) {
	for _, b := range samples() {
		if len(b) > 300 {
			continue
		}
		sum := crc.Sum(b)
		others(b, func(other []byte, at int) {
			if crc.Sum(other) == sum {
				t.Fatalf("%.20x: the same sum with %02x at %d", b, other[at], at)
			}
		})
		others(crc.Seal(b), func(other []byte, at int) {
			if got, e := crc.Open(other); got != nil || e != api.ErrSum {
				t.Fatalf("%.20x, sealed, with %02x at %d: %.20x, %d; want ErrSum", b, other[at], at, got, e)
			}
		})
	}
}

// TestOneByteEachOther: of bytes that differ at one place, no two have the same sum.
func TestOneByteEachOther(t *testing.T) {
	b := some(40)
	for at := range b {
		old, seen := b[at], map[uint32]int{}
		for x := range 256 {
			b[at] = byte(x)
			sum := crc.Sum(b)
			if other, is := seen[sum]; is {
				t.Fatalf("the same sum with %02x and %02x at %d", other, x, at)
			}
			seen[sum] = x
		}
		b[at] = old
	}
}

// TestOneByteFar: one byte that is another one is found in a long row, too, wherever it lies.
func TestOneByteFar(t *testing.T) {
	sealed := crc.Seal(some(1 << 16))
	for _, at := range []int{0, 1, 255, 256, 1<<15 - 1, 1<<16 - 1, 1 << 16, 1<<16 + 3} {
		for bit := range 8 {
			sealed[at] ^= 1 << bit
			refused(t, sealed, api.ErrSum)
			sealed[at] ^= 1 << bit
		}
	}
	if got, e := crc.Open(sealed); len(got) != 1<<16 || e != api.OK {
		t.Errorf("%d bytes, %d", len(got), e)
	}
}

// spoil overwrites all of b, and what its memory has behind its length.
func spoil(b []byte) {
	for i := range b[:cap(b)] {
		b[:cap(b)][i] = '!'
	}
}

// TestSealOwnMemory: what Seal is given, what lies behind that, and what Seal answers share nothing.
func TestSealOwnMemory(t *testing.T) {
	const text = "abcdefghijklmnopqrst"
	for length := range len(text) + 1 {
		whole := []byte(text)
		first, second := crc.Seal(whole[:length]), crc.Seal(whole[:length])
		kept := string(second)
		spoil(first)
		if string(whole) != text {
			t.Fatalf("%d: the argument was changed: %q", length, whole)
		}
		spoil(whole)
		if string(second) != kept {
			t.Fatalf("%d: the answer shares memory with an answer, or with the argument", length)
		}
	}
}

// TestOpenOwnMemory: the same of Open; and what it hands out has nothing of the sum behind its length.
func TestOpenOwnMemory(t *testing.T) {
	const text = "abcdefghijklmnopqrst"
	for length := range len(text) + 1 {
		whole := append(crc.Seal([]byte(text[:length])), "behind"...)
		old := string(whole)
		sealed := whole[:length+4]
		first, e := crc.Open(sealed)
		second, e2 := crc.Open(sealed)
		if string(first) != text[:length] || e != api.OK || e2 != api.OK {
			t.Fatalf("%d: %q, %d, %d", length, first, e, e2)
		}
		if behind := first[len(first):cap(first)]; bytes.IndexFunc(behind, func(r rune) bool { return r != 0 }) >= 0 {
			t.Fatalf("%d: behind the length of the answer: %x", length, behind)
		}
		spoil(first)
		if string(whole) != old {
			t.Fatalf("%d: the argument was changed: %q", length, whole)
		}
		spoil(whole)
		if string(second) != text[:length] {
			t.Fatalf("%d: the answer shares memory with an answer, or with the argument", length)
		}
	}
}

// TestArgumentsStay: no call changes what it is given, nor reads what lies behind its length.
func TestArgumentsStay(t *testing.T) {
	for _, b := range samples() {
		roomy := append(bytes.Clone(b), "behind"...)
		old := string(roomy)
		given := roomy[:len(b)]
		if crc.Many(7, given) != crc.Many(7, b) || crc.Sum(given) != crc.Sum(b) || !bytes.Equal(crc.Seal(given), crc.Seal(b)) {
			t.Errorf("%.20x: read behind the length", b)
		}
		bare, e := crc.Open(b)
		if got, e2 := crc.Open(given); !bytes.Equal(got, bare) || e2 != e {
			t.Errorf("%.20x: Open read behind the length", b)
		}
		if string(roomy) != old {
			t.Errorf("%.20x: the argument was changed", b)
		}
	}
}

// TestSameAnswers: an answer hangs on the arguments alone, not on the calls ahead of it.
func TestSameAnswers(t *testing.T) {
	for range 3 {
		refused(t, []byte("abc"), api.ErrForm)
		refused(t, []byte("abcd"), api.ErrSum)
		if got, e := crc.Open(crc.Seal([]byte("abc"))); string(got) != "abc" || e != api.OK {
			t.Errorf("%q, %d", got, e)
		}
		if got := crc.Sum([]byte("123456789")); got != 0xCBF43926 {
			t.Errorf("%08X", got)
		}
		if got := crc.Next(0, 1); got != 0x77073096 {
			t.Errorf("%08X", got)
		}
	}
}
