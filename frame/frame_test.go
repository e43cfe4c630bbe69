package frame_test

import (
	"bytes"
	"encoding/binary"
	"encoding/hex"
	"hash/crc32"
	"math"
	"math/big"
	"slices"
	"strings"
	"testing"

	"spence/api"
	"spence/frame"
)

// edges are numbers, rising, at which something that an int, a length or a part can do begins or ends.
func edges() []int {
	return []int{
		math.MinInt, math.MinInt + 1, math.MinInt + 15, math.MinInt + 16, math.MinInt + 17, -1 << 32, -1 << 31, -4113, -4112, -4097, -4096, -17, -16, -15, -2, -1,
		0, 1, 2, 3, 15, 16, 17, 18, 31, 32, 33, 255, 256, 257, 4079, 4080, 4081, 4095, 4096, 4097, 4111, 4112, 4113, 8192, 65535, 65536,
		1 << 31, 1 << 32, 1<<32 + 1, 1 << 62, math.MaxInt - 17, math.MaxInt - 16, math.MaxInt - 15, math.MaxInt - 14, math.MaxInt - 1, math.MaxInt,
	}
}

// some are so many bytes without a short rule in them; a seed makes others.
func some(length, seed int) []byte {
	b := make([]byte, length)
	x := uint32(2463534242 + 7919*seed)
	for i := range b {
		x ^= x << 13
		x ^= x >> 17
		x ^= x << 5
		b[i] = byte(x >> 11)
	}
	return b
}

// of is a frame.
func of(kind byte, seq uint64, data []byte) api.Frame {
	return api.Frame{Kind: kind, Seq: seq, Data: data}
}

// like is whether two frames are alike, an independent reading of Same.
func like(a, b api.Frame) bool {
	return [2]uint64{uint64(a.Kind), a.Seq} == [2]uint64{uint64(b.Kind), b.Seq} && string(a.Data) == string(b.Data)
}

// headed is b behind what a frame has ahead of Data, told by the library.
func headed(first, kind byte, length int, seq uint64, b []byte) []byte {
	out := []byte{first, kind}
	out = binary.BigEndian.AppendUint16(out, uint16(length))
	out = binary.BigEndian.AppendUint64(out, seq)
	return append(out, b...)
}

// sealed is b with its sum behind, told by the library.
func sealed(b []byte) []byte {
	return binary.LittleEndian.AppendUint32(bytes.Clone(b), crc32.ChecksumIEEE(b))
}

// laid is an independent reading of Put.
func laid(f api.Frame) []byte {
	return sealed(headed(0xA5, f.Kind, len(f.Data), f.Seq, f.Data))
}

// told is an independent reading of Get.
func told(b []byte) (api.Frame, int, api.Errno) {
	if len(b) == 0 || b[0] == 0xFF {
		return api.Frame{}, 0, api.ErrEnd
	}
	if b[0] != 0xA5 || len(b) < 16 {
		return api.Frame{}, 0, api.ErrForm
	}
	n := 256*int(b[2]) + int(b[3])
	if n > 4096 || len(b) < n+16 {
		return api.Frame{}, 0, api.ErrForm
	}
	if !bytes.Equal(sealed(b[:12+n]), b[:16+n]) {
		return api.Frame{}, 0, api.ErrSum
	}
	return of(b[1], binary.BigEndian.Uint64(b[4:12]), b[12:12+n]), n + 16, api.OK
}

// samples are frames with Data of many lengths: ordinary ones, and the edges.
func samples() []api.Frame {
	l := []api.Frame{
		{}, of(2, 1, nil), of(2, 1, []byte{}), of(2, 0x0102, []byte("abc")), of(0, 0, []byte{0}), of(0xFF, math.MaxUint64, []byte{0xFF}), of(0xA5, 0xA5A5A5A5A5A5A5A5, []byte{0xA5, 0xA5}),
		of(api.KindHead, 1<<63, nil), of(api.KindPurge, 1<<32, []byte("what \x00 is \xff here")),
		of(3, 0x0123456789ABCDEF, make([]byte, 40)), of(4, 7, bytes.Repeat([]byte{0xFF}, 40)),
		// a frame within a frame
		of(3, 9, laid(of(5, 6, []byte("within")))),
	}
	for i, length := range []int{1, 2, 15, 16, 17, 63, 64, 65, 240, 255, 256, 257, 511, 512, 4079, 4080, 4081, 4094, 4095, 4096} {
		l = append(l, of(byte(i), uint64(i)<<(3*i), some(length, i)))
	}
	return l
}

// tails are what may stand behind a frame.
func tails() [][]byte {
	return [][]byte{
		nil, {}, {0}, {0xFF}, {0xA5}, {9, 9}, make([]byte, 16), bytes.Repeat([]byte{0xFF}, 300), some(5000, 99),
		laid(of(1, 1, nil)), laid(of(3, 2, []byte("another one"))), laid(of(3, 2, []byte("another one")))[:20],
	}
}

// size, pages, put, gotten, refused and padded hold a call against what it must answer.
func size(t *testing.T, n, want int) {
	t.Helper()
	if got := frame.Size(n); got != want {
		t.Fatalf("Size(%d): %d; want %d", n, got, want)
	}
}

func pages(t *testing.T, n, bytes, want int) {
	t.Helper()
	if got := frame.Pages(n, bytes); got != want {
		t.Fatalf("Pages(%d, %d): %d; want %d", n, bytes, got, want)
	}
}

func put(t *testing.T, f api.Frame) []byte {
	t.Helper()
	b, e := frame.Put(f)
	if want := laid(f); e != api.OK || !bytes.Equal(b, want) {
		t.Fatalf("Put(%d, %x, %d bytes): %.40x, %d; want %.40x", f.Kind, f.Seq, len(f.Data), b, e, want)
	}
	return b
}

func gotten(t *testing.T, b []byte, want api.Frame, length int) {
	t.Helper()
	f, n, e := frame.Get(b)
	if e != api.OK || n != length || !like(f, want) {
		t.Fatalf("Get(%.40x, in all %d): %.60v, %d, %d; want %.60v, %d", b, len(b), f, n, e, want, length)
	}
}

func refused(t *testing.T, b []byte, want api.Errno) {
	t.Helper()
	f, n, e := frame.Get(b)
	if e != want || n != 0 || f.Kind != 0 || f.Seq != 0 || f.Data != nil {
		t.Fatalf("Get(%.40x, in all %d): %.60v, %d, %d; want %d alone", b, len(b), f, n, e, want)
	}
}

func padded(t *testing.T, b []byte, bytes int, want ...string) {
	t.Helper()
	var l []string
	for _, part := range frame.Pad(b, bytes) {
		l = append(l, string(part))
	}
	if !slices.Equal(l, want) {
		t.Fatalf("Pad(%.40q, %d): %.60q; want %.60q", b, bytes, l, want)
	}
}

// as holds Get of b against the independent reading, whatever that says.
func as(t *testing.T, b []byte) api.Errno {
	t.Helper()
	f, n, e := told(b)
	if e == api.OK {
		gotten(t, b, f, n)
	} else {
		refused(t, b, e)
	}
	return e
}

// P13.1.

func TestSize(t *testing.T) {
	for _, c := range [][2]int{
		{0, 16}, {1, 17}, {2, 18}, {16, 32}, {255, 271}, {256, 272}, {4094, 4110}, {4095, 4111}, {4096, 4112},
		{4097, 0}, {4098, 0}, {4112, 0}, {65535, 0}, {65536, 0}, {1 << 32, 0}, {1<<32 + 1, 0}, {math.MaxInt - 16, 0}, {math.MaxInt - 15, 0}, {math.MaxInt, 0},
		{-1, 0}, {-2, 0}, {-15, 0}, {-16, 0}, {-17, 0}, {-4096, 0}, {-1 << 32, 0}, {math.MinInt, 0}, {math.MinInt + 1, 0},
	} {
		size(t, c[0], c[1])
	}
	for n := -5000; n < 10000; n++ {
		if n < 0 || n > 4096 {
			size(t, n, 0)
		} else {
			size(t, n, n+16)
		}
	}
}

// TestSizeOfPut: Size tells how many bytes Put lays.
func TestSizeOfPut(t *testing.T) {
	for _, f := range samples() {
		size(t, len(f.Data), len(put(t, f)))
	}
}

func TestPages(t *testing.T) {
	for _, c := range [][3]int{
		{3, 16, 2}, {0, 16, 1}, {1, 16, 2}, {16, 16, 2}, {17, 16, 3},
		// one fewer than it takes, just that, one more
		{0, 15, 2}, {0, 17, 1}, {3, 18, 2}, {3, 19, 1}, {3, 20, 1}, {4096, 4111, 2}, {4096, 4112, 1}, {4096, 4113, 1}, {4095, 4110, 2}, {4095, 4111, 1},
		// the same of many pages
		{4096, 256, 17}, {4080, 256, 16}, {4081, 256, 17}, {4079, 256, 16}, {4096, 257, 16}, {4096, 16, 257}, {4095, 16, 257}, {4080, 16, 256}, {4081, 16, 257}, {48, 16, 4}, {48, 32, 2}, {48, 31, 3}, {48, 33, 2}, {48, 63, 2}, {48, 64, 1},
		// pages of a byte, and of two
		{0, 1, 16}, {1, 1, 17}, {4096, 1, 4112}, {0, 2, 8}, {1, 2, 9}, {2, 2, 9}, {3, 2, 10},
		// pages of very many bytes
		{0, 1 << 32, 1}, {4096, 1 << 62, 1}, {0, math.MaxInt, 1}, {1, math.MaxInt, 1}, {4096, math.MaxInt, 1}, {0, math.MaxInt - 1, 1}, {0, math.MaxInt - 15, 1}, {0, math.MaxInt - 16, 1}, {4096, math.MaxInt - 4110, 1},
		// pages that may not be
		{0, 0, 0}, {3, 0, 0}, {4096, 0, 0}, {0, -1, 0}, {3, -1, 0}, {3, -19, 0}, {0, -16, 0}, {3, math.MinInt, 0}, {3, math.MinInt + 1, 0},
		// Data that may not be
		{-1, 16, 0}, {-1, 1, 0}, {-16, 16, 0}, {-17, 1, 0}, {-32, 16, 0}, {4097, 16, 0}, {4097, 1, 0}, {4097, 4113, 0}, {4097, math.MaxInt, 0}, {math.MaxInt, 16, 0}, {math.MaxInt, 1, 0}, {math.MaxInt, math.MaxInt, 0}, {math.MinInt, 16, 0}, {math.MinInt, 1, 0},
		// neither
		{-1, 0, 0}, {4097, 0, 0}, {4097, -1, 0}, {-16, -16, 0}, {math.MinInt, math.MinInt, 0}, {math.MinInt, -1, 0}, {math.MaxInt, 0, 0},
	} {
		pages(t, c[0], c[1], c[2])
	}
}

// TestPagesCounted: a page more each time that those that there are have no room; for all Data, and many pages.
func TestPagesCounted(t *testing.T) {
	sizes := []int{1000, 2056, 4095, 4096, 4097, 4111, 4112, 4113, 1 << 40, math.MaxInt}
	for bytes := 1; bytes <= 300; bytes++ {
		sizes = append(sizes, bytes)
	}
	for _, bytes := range sizes {
		count, room := 0, 0
		for length := 1; length <= 4112; length++ {
			if room == 0 {
				count++
				room = bytes
			}
			room--
			if length >= 16 {
				pages(t, length-16, bytes, count)
			}
		}
	}
}

// TestPagesFar: both numbers at each edge, held against numbers of any size.
func TestPagesFar(t *testing.T) {
	for _, n := range edges() {
		for _, bytes := range edges() {
			if n < 0 || n > 4096 || bytes < 1 {
				pages(t, n, bytes, 0)
				continue
			}
			all := new(big.Int).Add(big.NewInt(int64(n)+16-1), big.NewInt(int64(bytes)))
			pages(t, n, bytes, int(all.Quo(all, big.NewInt(int64(bytes))).Int64()))
		}
	}
}

func TestSame(t *testing.T) {
	f := of(2, 0x0102030405060708, []byte("abc"))
	for _, c := range []struct {
		other api.Frame
		want  bool
	}{
		{f, true}, {of(2, 0x0102030405060708, []byte("abc")), true}, {api.Frame{}, false},
		{of(3, f.Seq, f.Data), false}, {of(0, f.Seq, f.Data), false}, {of(0x82, f.Seq, f.Data), false},
		{of(2, f.Seq+1, f.Data), false}, {of(2, 0, f.Data), false},
		{of(2, f.Seq, []byte("abd")), false}, {of(2, f.Seq, []byte("Abc")), false}, {of(2, f.Seq, []byte("aBc")), false}, {of(2, f.Seq, []byte("acb")), false},
		{of(2, f.Seq, []byte("ab")), false}, {of(2, f.Seq, []byte("abcd")), false}, {of(2, f.Seq, []byte("abc\x00")), false}, {of(2, f.Seq, []byte("bc")), false}, {of(2, f.Seq, nil), false}, {of(2, f.Seq, []byte{}), false},
	} {
		if frame.Same(f, c.other) != c.want || frame.Same(c.other, f) != c.want {
			t.Errorf("Same(%v, %v): %v, %v", f, c.other, frame.Same(f, c.other), frame.Same(c.other, f))
		}
	}
	// No Data is no Data.
	none := [][]byte{nil, {}, f.Data[:0], f.Data[3:]}
	for _, a := range none {
		for _, b := range none {
			if !frame.Same(of(2, 1, a), of(2, 1, b)) || frame.Same(of(2, 1, a), of(3, 1, b)) || frame.Same(of(2, 1, a), of(2, 2, b)) || frame.Same(of(2, 1, a), of(2, 1, []byte{0})) {
				t.Errorf("no Data: %v and %v", a == nil, b == nil)
			}
		}
	}
	if !frame.Same(api.Frame{}, api.Frame{}) || !frame.Same(api.Frame{}, of(0, 0, []byte{})) {
		t.Errorf("two zero frames aren't Same")
	}
}

// others tells frames of which each differs from f at one thing alone: each bit of Kind, of Seq, of each byte, and how many there are.
func others(f api.Frame, tell func(api.Frame)) {
	for bit := range 8 {
		tell(of(f.Kind^1<<bit, f.Seq, f.Data))
	}
	for bit := range 64 {
		tell(of(f.Kind, f.Seq^1<<bit, f.Data))
	}
	for at := range f.Data {
		for bit := range 8 {
			data := bytes.Clone(f.Data)
			data[at] ^= 1 << bit
			tell(of(f.Kind, f.Seq, data))
		}
	}
	if len(f.Data) > 0 {
		tell(of(f.Kind, f.Seq, f.Data[1:]))
		tell(of(f.Kind, f.Seq, f.Data[:len(f.Data)-1]))
	}
	for _, x := range []byte{0, 0xFF, 0xA5} {
		tell(of(f.Kind, f.Seq, append(bytes.Clone(f.Data), x)))
		tell(of(f.Kind, f.Seq, append([]byte{x}, f.Data...)))
	}
}

// TestSameOthers: one thing that is another one is enough, whatever it is, both ways round; so it is of what Put lays.
func TestSameOthers(t *testing.T) {
	for _, f := range samples() {
		if len(f.Data) > 300 {
			continue
		}
		mine := put(t, f)
		others(f, func(other api.Frame) {
			if frame.Same(f, other) || frame.Same(other, f) {
				t.Fatalf("Same(%v, %v)", f, other)
			}
			if b, e := frame.Put(other); e != api.OK || bytes.Equal(b, mine) {
				t.Fatalf("Put of %v is that of %v", other, f)
			}
		})
	}
}

// TestSamePairs: all pairs of frames; a frame is Same as itself, with bytes of its own.
func TestSamePairs(t *testing.T) {
	for i, a := range samples() {
		for j, b := range samples() {
			if got := frame.Same(a, b); got != like(a, b) || i == j && !got {
				t.Fatalf("Same(%.60v, %.60v): %v", a, b, got)
			}
		}
	}
}

// TestSameLong: Data may be longer than a frame may have it.
func TestSameLong(t *testing.T) {
	for _, length := range []int{4096, 4097, 70000} {
		a, b := of(2, 1, some(length, 1)), of(2, 1, some(length, 1))
		if !frame.Same(a, b) {
			t.Errorf("%d bytes: not Same", length)
		}
		for _, at := range []int{0, length / 2, length - 1} {
			b.Data[at] ^= 1
			if frame.Same(a, b) {
				t.Errorf("%d bytes, another one at %d: Same", length, at)
			}
			b.Data[at] ^= 1
		}
		if frame.Same(a, of(2, 1, b.Data[:length-1])) {
			t.Errorf("%d bytes, and one fewer: Same", length)
		}
	}
}

// P13.2.

// TestPutByHand: bytes that were told beside the program, sum and all.
func TestPutByHand(t *testing.T) {
	for _, c := range []struct {
		f    api.Frame
		want string
	}{
		{of(2, 1, nil), "a502 0000 0000000000000001 308cebb4"},
		{of(2, 1, []byte{}), "a502 0000 0000000000000001 308cebb4"},
		{of(2, 0x0102, []byte("abc")), "a502 0003 0000000000000102 616263 ff1ceae9"},
		{api.Frame{}, "a500 0000 0000000000000000 6705809b"},
		{of(0xFF, math.MaxUint64, []byte{0xFF}), "a5ff 0001 ffffffffffffffff ff 168dbdd5"},
		{of(5, 0x0123456789ABCDEF, []byte{0, 1}), "a505 0002 0123456789abcdef 0001 bf9b484a"},
	} {
		b, e := frame.Put(c.f)
		if got := hex.EncodeToString(b); e != api.OK || got != strings.ReplaceAll(c.want, " ", "") {
			t.Errorf("Put(%v): %s, %d; want %s", c.f, got, e, c.want)
		}
	}
}

// TestPutEach: each Kind; Seq with each of its bytes another one, and each bit; Data of each length that may be.
func TestPutEach(t *testing.T) {
	for kind := range 256 {
		put(t, of(byte(kind), 0x0102030405060708, []byte("abc")))
		put(t, of(byte(kind), 0, nil))
	}
	for at := range 8 {
		for x := range uint64(256) {
			put(t, of(3, x<<(8*at), []byte("abc")))
			put(t, of(3, math.MaxUint64^x<<(8*at), nil))
		}
	}
	for bit := range 64 {
		put(t, of(4, 1<<bit, []byte{7}))
		put(t, of(4, 1<<bit-1, nil))
	}
	for length := range 4097 {
		put(t, of(byte(length), uint64(length)<<20, some(length, length)))
	}
	for _, f := range samples() {
		put(t, f)
	}
}

// TestPutPlaces: what stands where, told one by one.
func TestPutPlaces(t *testing.T) {
	f := of(0x17, 0x18191A1B1C1D1E1F, some(0x0234, 1))
	b := put(t, f)
	head := []byte{0xA5, 0x17, 0x02, 0x34, 0x18, 0x19, 0x1A, 0x1B, 0x1C, 0x1D, 0x1E, 0x1F}
	if len(b) != 0x0234+16 || !bytes.Equal(b[:12], head) || !bytes.Equal(b[12:12+0x0234], f.Data) {
		t.Errorf("%d bytes: %x", len(b), b[:20])
	}
	for length, want := range map[int][2]byte{0: {0, 0}, 1: {0, 1}, 255: {0, 255}, 256: {1, 0}, 257: {1, 1}, 4095: {0x0F, 0xFF}, 4096: {0x10, 0}} {
		if b := put(t, of(1, 1, make([]byte, length))); [2]byte(b[2:4]) != want || len(b) != length+16 {
			t.Errorf("%d bytes of Data: %x, %d", length, b[2:4], len(b))
		}
	}
}

func TestPutLong(t *testing.T) {
	put(t, of(2, 1, some(4096, 1)))
	for _, length := range []int{4097, 4098, 4112, 4113, 5000, 8192, 65535, 65536, 65537, 65539, 1 << 20} {
		for _, f := range []api.Frame{of(2, 1, some(length, 1)), of(0, 0, make([]byte, length)), of(0xFF, math.MaxUint64, some(length, 2))} {
			if b, e := frame.Put(f); b != nil || e != api.ErrLong {
				t.Errorf("%d bytes: %.40x, %d", length, b, e)
			}
		}
	}
}

// P13.3.

// TestGetEnd: nothing, and a first byte FF; whatever else may be wrong.
func TestGetEnd(t *testing.T) {
	whole := laid(of(2, 1, []byte("abc")))
	for _, none := range [][]byte{nil, {}, whole[:0], whole[len(whole):], make([]byte, 0, 40)} {
		refused(t, none, api.ErrEnd)
	}
	refused(t, []byte{0xFF}, api.ErrEnd)
	for _, behind := range append(tails(), whole, whole[1:], some(4200, 5)) {
		refused(t, append([]byte{0xFF}, behind...), api.ErrEnd)
	}
	for _, length := range []int{2, 15, 16, 17, 4112, 4113, 70000} {
		refused(t, bytes.Repeat([]byte{0xFF}, length), api.ErrEnd)
	}
	// All else of a frame, sealed anew.
	refused(t, sealed(headed(0xFF, 2, 3, 1, []byte("abc"))), api.ErrEnd)
	refused(t, sealed(headed(0xFF, 2, 4097, 1, some(4097, 1))), api.ErrEnd)
}

// TestGetFirst: each first byte, alone, with few behind it, and with all else of a frame.
func TestGetFirst(t *testing.T) {
	for x := range 256 {
		first, want := byte(x), api.ErrForm
		if first == 0xFF {
			want = api.ErrEnd
		}
		refused(t, []byte{first}, want)
		refused(t, []byte{first, 0xA5}, want)
		refused(t, append([]byte{first}, make([]byte, 14)...), want)
		for _, data := range [][]byte{nil, []byte("abc"), some(4096, 1)} {
			b := sealed(headed(first, 2, len(data), 1, data))
			if first == 0xA5 {
				gotten(t, b, of(2, 1, data), len(b))
				continue
			}
			refused(t, b, want)
			b[len(b)-1] ^= 1
			refused(t, b, want)
		}
	}
}

// TestGetShort: fewer bytes than any frame has, and just as many.
func TestGetShort(t *testing.T) {
	for length := 1; length < 16; length++ {
		for _, x := range []byte{0, 1, 0x10, 0xA5, 0xFF} {
			refused(t, append([]byte{0xA5}, bytes.Repeat([]byte{x}, length-1)...), api.ErrForm)
		}
	}
	none := laid(of(2, 1, nil))
	if len(none) != 16 {
		t.Fatal(len(none))
	}
	for length := 1; length < 16; length++ {
		refused(t, none[:length], api.ErrForm) // more lies behind the length
		refused(t, bytes.Clone(none[:length]), api.ErrForm)
	}
	gotten(t, none, of(2, 1, nil), 16)
	for x := range 256 {
		gotten(t, append(bytes.Clone(none), byte(x)), of(2, 1, nil), 16)
	}
	refused(t, append([]byte{0xA5}, make([]byte, 15)...), api.ErrSum)
	refused(t, append([]byte{0xA5}, make([]byte, 16)...), api.ErrSum)
	refused(t, append([]byte{0xA5, 0, 0, 1}, make([]byte, 12)...), api.ErrForm)
	refused(t, append([]byte{0xA5, 0, 0, 1}, make([]byte, 13)...), api.ErrSum)
}

// TestGetCut: of a frame that isn't all there no byte is enough, from the first one on to the last but one; with more behind it, its length is all that counts.
func TestGetCut(t *testing.T) {
	for _, data := range [][]byte{nil, []byte("a"), []byte("abc"), some(16, 1), some(240, 2), some(255, 3), some(256, 4), some(4095, 5), some(4096, 6)} {
		f := of(3, 0x0102030405060708, data)
		b := laid(f)
		refused(t, b[:0], api.ErrEnd)
		for length := 1; length < len(b); length++ {
			refused(t, b[:length], api.ErrForm)
			refused(t, b[:length:length], api.ErrForm)
		}
		gotten(t, b, f, len(b))
		for _, behind := range tails() {
			gotten(t, append(bytes.Clone(b), behind...), f, len(b))
		}
	}
}

// TestGetLong: a length above 4,096 isn't of the form, be all of it there, and rightly sealed, or not.
func TestGetLong(t *testing.T) {
	data := some(70000, 1)
	gotten(t, sealed(headed(0xA5, 2, 4096, 1, data[:4096])), of(2, 1, data[:4096]), 4112)
	for _, length := range []int{4097, 4098, 4111, 4112, 4113, 5000, 8192, 1 << 15, 65519, 65520, 65521, 65534, 65535} {
		b := sealed(headed(0xA5, 2, length, 1, data[:length]))
		refused(t, b, api.ErrForm)
		refused(t, append(b, data...), api.ErrForm)
		refused(t, b[:len(b)-1], api.ErrForm)
		refused(t, b[:16], api.ErrForm)
		refused(t, b[:4112], api.ErrForm)
		b[len(b)-1] ^= 1
		refused(t, b, api.ErrForm)
	}
	// No length, with the sum that would be right of it.
	for _, length := range []int{4097, 65535} {
		refused(t, sealed(headed(0xA5, 2, length, 1, nil)), api.ErrForm)
	}
}

// TestGetEachLength: each length that two bytes can tell, with just as many bytes, and with one fewer.
func TestGetEachLength(t *testing.T) {
	memory := headed(0xA5, 2, 0, 1, make([]byte, 66000))
	for length := range 65536 {
		binary.BigEndian.PutUint16(memory[2:], uint16(length))
		if length > 4096 {
			refused(t, memory[:length+16], api.ErrForm)
			continue
		}
		refused(t, memory[:length+15], api.ErrForm)
		refused(t, memory[:length+16], api.ErrSum)
		copy(memory[12+length:], sealed(memory[:12+length])[12+length:])
		gotten(t, memory[:length+16], of(2, 1, make([]byte, length)), length+16)
		gotten(t, memory, of(2, 1, make([]byte, length)), length+16)
		refused(t, memory[:length+15], api.ErrForm)
		clear(memory[12+length : 16+length])
	}
}

// TestGetSum: bytes that are of the form, and not sealed so.
func TestGetSum(t *testing.T) {
	for _, c := range []string{
		// the sum's bytes turned round, its bits, one of them, and other places
		"a502 0003 0000000000000102 616263 e9ea1cff", "a502 0003 0000000000000102 616263 00e31516", "a502 0003 0000000000000102 616263 ff1ceae8", "a502 0003 0000000000000102 616263 001ceae9",
		"a502 0003 0000000000000102 ff1ceae9 616263", "a502 0003 ff1ceae9 0000000000000102 616263",
		// noughts, and what an erased page has
		"a502 0003 0000000000000102 616263 00000000", "a502 0003 0000000000000102 616263 ffffffff",
		// the sum of Data alone, and of Data that is whole while the head isn't
		"a502 0003 0000000000000102 616263 c2412435",
		"a502 0003 0000000000000201 616263 ff1ceae9", "a502 0003 0200010000000000 616263 ff1ceae9", "a503 0003 0000000000000102 616263 ff1ceae9",
		"a502 0003 0000000000000102 616362 ff1ceae9", "a502 0003 0000000000000102 62616363 ff1ceae9",
		// a length that is smaller than it was
		"a502 0002 0000000000000102 616263 ff1ceae9", "a502 0000 0000000000000102 616263 ff1ceae9",
		// a length, the lowest byte first, with enough behind it
		"a502 0300 0000000000000102 616263 ff1ceae9" + strings.Repeat("00", 800),
	} {
		b, err := hex.DecodeString(strings.ReplaceAll(c, " ", ""))
		if err != nil {
			t.Fatal(err)
		}
		refused(t, b, api.ErrSum)
	}
	b := laid(of(2, 0x0102, []byte("abc")))
	gotten(t, b, of(2, 0x0102, []byte("abc")), 19)
	// A frame that begins a byte further on, and one that is half another one.
	refused(t, append([]byte{0xA5}, b...), api.ErrForm)
	refused(t, append(bytes.Clone(b[:15]), laid(of(2, 0x0103, []byte("abc")))[15:]...), api.ErrSum)
}

// TestOneByte: one byte of a frame is another one, whatever it is, at each place; with nothing behind the frame, and with enough for any length.
func TestOneByte(t *testing.T) {
	for _, f := range samples() {
		if len(f.Data) > 260 {
			continue
		}
		length := len(f.Data) + 16
		memory := append(laid(f), some(4200, 3)...)
		for at := range length {
			old := memory[at]
			for x := 1; x < 256; x++ {
				memory[at] = old ^ byte(x)
				alone, more := as(t, memory[:length]), as(t, memory)
				switch {
				case at == 0 && memory[at] == 0xFF:
					wants(t, at, memory[at], alone, more, api.ErrEnd)
				case at == 0:
					wants(t, at, memory[at], alone, more, api.ErrForm)
				case at == 2 || at == 3:
					if alone == api.OK || more == api.OK {
						t.Fatalf("another length: %d, %d", alone, more)
					}
				default:
					wants(t, at, memory[at], alone, more, api.ErrSum)
				}
			}
			memory[at] = old
		}
		gotten(t, memory, f, length)
	}
}

// wants holds the errors of a frame with nothing and with something behind it.
func wants(t *testing.T, at int, x byte, alone, more, want api.Errno) {
	t.Helper()
	if alone != want || more != want {
		t.Fatalf("with %02x at %d: %d, %d; want %d", x, at, alone, more, want)
	}
}

// TestOneByteFar: the same of long frames, bit by bit.
func TestOneByteFar(t *testing.T) {
	for _, length := range []int{4095, 4096} {
		b := laid(of(3, 4, some(length, 1)))
		for _, at := range []int{1, 4, 11, 12, 13, 255, 256, 4095, length + 10, length + 11, length + 12, length + 13, length + 14, length + 15} {
			for bit := range 8 {
				b[at] ^= 1 << bit
				refused(t, b, api.ErrSum)
				b[at] ^= 1 << bit
			}
		}
		gotten(t, b, of(3, 4, some(length, 1)), length+16)
	}
}

// TestGetWhichFirst: where two errors would do, the one that is named first.
func TestGetWhichFirst(t *testing.T) {
	whole := sealed(headed(0xA5, 2, 3, 1, []byte("abc")))
	spoilt := bytes.Clone(whole)
	spoilt[len(spoilt)-1] ^= 1
	refused(t, spoilt, api.ErrSum)
	for _, c := range []struct {
		b    []byte
		want api.Errno
	}{
		{nil, api.ErrEnd},                                           // and fewer than 16 bytes
		{[]byte{0xFF}, api.ErrEnd},                                  // likewise
		{append([]byte{0xFF}, spoilt[1:]...), api.ErrEnd},           // and not A5, and the sum
		{headed(0xFF, 2, 65535, 1, nil), api.ErrEnd},                // and the length
		{append([]byte{0}, spoilt[1:]...), api.ErrForm},             // not A5, and the sum
		{append([]byte{0xA4}, whole[1:]...), api.ErrForm},           // likewise
		{spoilt[:18], api.ErrForm},                                  // a byte fewer, and the sum
		{spoilt[:15], api.ErrForm},                                  // fewer than 16 bytes, and the sum
		{headed(0xA5, 2, 4097, 1, make([]byte, 4200)), api.ErrForm}, // the length, and the sum
		{headed(0xA5, 2, 65535, 1, make([]byte, 70000)), api.ErrForm},
		{headed(0xA5, 2, 5, 1, make([]byte, 4)), api.ErrForm},
	} {
		refused(t, c.b, c.want)
	}
}

// TestGetRows: rows of bytes of which each is one that counts, of many lengths, and changed frames, held against the independent reading.
func TestGetRows(t *testing.T) {
	var further func(b []byte, more int)
	further = func(b []byte, more int) {
		as(t, b)
		if more == 0 {
			return
		}
		for _, x := range []byte{0, 1, 0x10, 0xA5, 0xFF} {
			further(append(bytes.Clone(b), x), more-1)
		}
	}
	further(nil, 5)
	// The same behind what may begin a frame, with enough behind it.
	for _, length := range []int{0, 1, 2} {
		further(headed(0xA5, 1, length, 7, nil), 6)
	}
	seen := map[api.Errno]int{}
	chance := some(60000, 17)
	next := func(most int) int {
		n := 256*int(chance[0]) + int(chance[1])
		chance = chance[2:]
		return n % most
	}
	l := samples()
	for len(chance) > 30 {
		b := append(laid(l[next(12)]), some(next(40), next(50))...)
		for range next(3) {
			b[next(len(b))] = byte(next(256))
		}
		seen[as(t, b[:len(b)-next(4)])]++
	}
	for _, e := range []api.Errno{api.OK, api.ErrForm, api.ErrSum, api.ErrEnd} {
		if seen[e] == 0 {
			t.Errorf("no row was answered by %d: %v", e, seen)
		}
	}
}

// P13.4.

func TestPad(t *testing.T) {
	padded(t, []byte("abcdefghij"), 4, "abcd", "efgh", "ij\xff\xff")
	padded(t, []byte("a"), 4, "a\xff\xff\xff")
	// one fewer than a part has, as many, one more, and twice as many
	padded(t, []byte("abc"), 4, "abc\xff")
	padded(t, []byte("abcd"), 4, "abcd")
	padded(t, []byte("abcde"), 4, "abcd", "e\xff\xff\xff")
	padded(t, []byte("abcdefg"), 4, "abcd", "efg\xff")
	padded(t, []byte("abcdefgh"), 4, "abcd", "efgh")
	padded(t, []byte("abcdefghi"), 4, "abcd", "efgh", "i\xff\xff\xff")
	// parts of a byte
	padded(t, []byte("a"), 1, "a")
	padded(t, []byte("abc"), 1, "a", "b", "c")
	// bytes that are FF, or noughts, stay
	padded(t, []byte("\xff\xff\x00\xff\x00"), 2, "\xff\xff", "\x00\xff", "\x00\xff")
	padded(t, []byte{0, 0, 0}, 2, "\x00\x00", "\x00\xff")
	padded(t, []byte{0xFF}, 3, "\xff\xff\xff")
}

// TestPadNothing: no bytes have no parts; nor have any, if a part may not be.
func TestPadNothing(t *testing.T) {
	l := [][]byte{nil, {}, some(40, 1)[:0], []byte("a"), []byte("abcd"), some(4095, 1), some(4096, 1), some(4097, 1), some(9000, 1)}
	for _, b := range l {
		for _, bytes := range []int{0, -1, -2, -4, -4096, 4097, 4098, 8192, 9000, 1 << 32, 1<<32 + 4, 1 << 62, math.MaxInt, math.MaxInt - 1, math.MinInt, math.MinInt + 1, math.MinInt + 4} {
			padded(t, b, bytes)
		}
	}
	for _, none := range l[:3] {
		for _, bytes := range edges() {
			padded(t, none, bytes)
		}
		padded(t, none, 1)
		padded(t, none, 4096)
	}
}

// parts holds Pad of b against b, byte by byte.
func parts(t *testing.T, b []byte, size int) {
	t.Helper()
	l := frame.Pad(b, size)
	if len(l)*size < len(b) || (len(l)-1)*size >= len(b) && len(l) > 0 {
		t.Fatalf("Pad of %d bytes, %d: %d parts", len(b), size, len(l))
	}
	for i, part := range l {
		if len(part) != size {
			t.Fatalf("Pad of %d bytes, %d: part %d has %d", len(b), size, i, len(part))
		}
		for k, x := range part {
			want := byte(0xFF)
			if at := i*size + k; at < len(b) {
				want = b[at]
			}
			if x != want {
				t.Fatalf("Pad of %d bytes, %d: %02x at %d of part %d; want %02x", len(b), size, x, k, i, want)
			}
		}
	}
}

// TestPadEach: parts of all small sizes, and bytes around whole ones; parts of each size; the greatest ones.
func TestPadEach(t *testing.T) {
	b := some(20000, 1)
	for size := 1; size <= 40; size++ {
		for length := range 130 {
			parts(t, b[:length], size)
		}
	}
	for size := 1; size <= 4096; size++ {
		for _, length := range []int{0, 1, size - 1, size, size + 1, 2*size - 1, 2 * size, 2*size + 1} {
			parts(t, b[:length], size)
		}
	}
	for _, size := range []int{1, 2, 16, 255, 256, 257, 4095, 4096} {
		for _, length := range []int{4095, 4096, 4097, 4111, 4112, 4113, 8191, 8192, 8193, 19999, 20000} {
			parts(t, b[:length], size)
			parts(t, make([]byte, length), size)
		}
	}
}

// TestPadPages: a frame is padded to as many pages as Pages says.
func TestPadPages(t *testing.T) {
	for _, f := range samples() {
		b := put(t, f)
		for _, bytes := range []int{1, 15, 16, 17, 64, 255, 256, 1000, 4095, 4096} {
			pages(t, len(f.Data), bytes, len(frame.Pad(b, bytes)))
			parts(t, b, bytes)
		}
	}
}

// P13.5.

// back holds that Get of Put is the frame, with each tail behind it, and also as it lies on pages.
func back(t *testing.T, f api.Frame, tails [][]byte) {
	t.Helper()
	b := put(t, f)
	for _, behind := range tails {
		all := append(bytes.Clone(b), behind...)
		g, n, e := frame.Get(all)
		if e != api.OK || n != len(b) || !frame.Same(f, g) || !like(f, g) {
			t.Fatalf("%.60v: %.60v, %d, %d", f, g, n, e)
		}
		parts(t, all, 16+n%64)
	}
	for _, size := range []int{1, 16, 17, 256, 4096} {
		l := frame.Pad(b, size)
		gotten(t, bytes.Join(l, nil), f, len(b))
		gotten(t, bytes.Join(append(l, b), nil), f, len(b))
	}
}

func TestThereAndBack(t *testing.T) {
	for _, f := range samples() {
		back(t, f, tails())
	}
	for kind := range 256 {
		back(t, of(byte(kind), uint64(kind)*0x0101010101010101, some(kind, kind)), tails()[5:7])
	}
	for bit := range 64 {
		back(t, of(3, 1<<bit, []byte{byte(bit)}), tails()[:6])
	}
	few := [][]byte{nil, {0xFF}, some(7, 2)}
	for length := 0; length <= 4096; length += 31 {
		back(t, of(3, uint64(length), some(length, length)), few)
	}
}

// TestRowOfFrames: frames one behind the other are taken apart by what Get tells of each; behind the last one is the end.
func TestRowOfFrames(t *testing.T) {
	for _, behind := range [][]byte{nil, {0xFF}, bytes.Repeat([]byte{0xFF}, 100)} {
		var b []byte
		for _, f := range samples() {
			b = append(b, put(t, f)...)
		}
		b = append(b, behind...)
		for _, f := range samples() {
			gotten(t, b, f, len(f.Data)+16)
			b = b[len(f.Data)+16:]
		}
		refused(t, b, api.ErrEnd)
	}
}

// TestSmallBack: all frames of up to two bytes of those that count, with all that is as small behind them.
func TestSmallBack(t *testing.T) {
	var small [][]byte
	counts := []byte{0, 1, 0x10, 0xA5, 0xFF}
	small = append(small, nil)
	for _, x := range counts {
		small = append(small, []byte{x})
		for _, y := range counts {
			small = append(small, []byte{x, y})
		}
	}
	for _, data := range small {
		for _, kind := range counts {
			for _, seq := range []uint64{0, 1, 0xA5, 0xFF << 56, math.MaxUint64} {
				back(t, of(kind, seq, data), small)
			}
		}
	}
}

// P2, P3: what is whose.

// spoil overwrites all of b, and what its memory has behind its length.
func spoil(b []byte) {
	for i := range b[:cap(b)] {
		b[:cap(b)][i] = '!'
	}
}

// blank is whether what b's memory has behind its length is noughts alone.
func blank(b []byte) bool {
	behind := b[len(b):cap(b)]
	return bytes.Equal(behind, make([]byte, len(behind)))
}

// TestPutOwnMemory: what Put is given, what lies behind that, and what Put answers share nothing.
func TestPutOwnMemory(t *testing.T) {
	for length := range 40 {
		memory := some(60, 1)
		data := memory[:length]
		f := of(3, 4, data)
		want := laid(of(3, 4, some(60, 1)[:length]))
		first, _ := frame.Put(f)
		second, _ := frame.Put(f)
		if !bytes.Equal(first, want) || !bytes.Equal(second, want) || !blank(first) {
			t.Fatalf("%d: %x, %x", length, first, second)
		}
		spoil(first)
		if !bytes.Equal(memory, some(60, 1)) || !bytes.Equal(second, want) {
			t.Fatalf("%d: an answer shares memory with the argument, or with another answer", length)
		}
		spoil(memory)
		if !bytes.Equal(second, want) {
			t.Fatalf("%d: the answer changes with the argument", length)
		}
	}
}

// TestPutLongOwnMemory: Data that is too long stays as it is; bytes behind a length that is right don't make it so.
func TestPutLongOwnMemory(t *testing.T) {
	memory := some(5000, 1)
	if b, e := frame.Put(of(3, 4, memory[:4097])); b != nil || e != api.ErrLong {
		t.Errorf("%.40x, %d", b, e)
	}
	put(t, of(3, 4, memory[:4096]))
	put(t, of(3, 4, memory[:0]))
	if !bytes.Equal(memory, some(5000, 1)) {
		t.Errorf("Data was changed")
	}
}

// TestGetOwnMemory: the same of Get; and its Data has nothing of the sum behind its length, nor of what stands ahead of it.
func TestGetOwnMemory(t *testing.T) {
	for length := range 40 {
		f := of(3, 4, some(length, 1))
		memory := append(laid(f), "behind it"...)
		old := bytes.Clone(memory)
		given := memory[:length+16+length%9]
		first, _, e := frame.Get(given)
		second, _, e2 := frame.Get(given)
		if e != api.OK || e2 != api.OK || !like(first, f) || !like(second, f) || !blank(first.Data) {
			t.Fatalf("%d: %v, %v", length, first, second)
		}
		spoil(first.Data)
		if !bytes.Equal(memory, old) || !like(second, f) {
			t.Fatalf("%d: an answer shares memory with the argument, or with another answer", length)
		}
		spoil(memory)
		if !like(second, f) {
			t.Fatalf("%d: the answer changes with the argument", length)
		}
	}
}

// TestGetStays: bytes that aren't a frame stay as they are, too.
func TestGetStays(t *testing.T) {
	whole := laid(of(3, 4, []byte("abcdef")))
	spoilt := append(bytes.Clone(whole), 1, 2, 3)
	spoilt[14] ^= 1
	for _, b := range [][]byte{whole, spoilt, {0xFF, 1, 2}, {7, 8, 9}, headed(0xA5, 2, 4097, 1, some(5000, 1)), some(50, 1)} {
		old := bytes.Clone(b)
		for length := range len(b) + 1 {
			if length > 60 && length < len(b) {
				continue
			}
			as(t, b[:length])
			if !bytes.Equal(b, old) {
				t.Fatalf("%d: the argument was changed", length)
			}
		}
	}
}

// TestPadOwnMemory: no part shares memory with what was given, with another part, or with another answer's.
func TestPadOwnMemory(t *testing.T) {
	for _, size := range []int{1, 4, 5, 16, 64, 4096} {
		for length := range 40 {
			memory := some(60, 1)
			want := some(60, 1)[:length]
			first, second := frame.Pad(memory[:length], size), frame.Pad(memory[:length], size)
			for i, part := range first {
				if !blank(part) {
					t.Fatalf("%d, %d: behind part %d: %x", length, size, i, part[:cap(part)])
				}
				spoil(part)
				holdsFrom(t, first, i+1, want, size)
				holdsFrom(t, second, 0, want, size)
			}
			if !bytes.Equal(memory, some(60, 1)) {
				t.Fatalf("%d, %d: the argument was changed", length, size)
			}
			spoil(memory)
			holdsFrom(t, second, 0, want, size)
			for i := range first {
				if !bytes.Equal(first[i], bytes.Repeat([]byte{'!'}, size)) {
					t.Fatalf("%d, %d: part %d is shared", length, size, i)
				}
			}
		}
	}
}

// holdsFrom holds the parts from one on against bytes that are told beside them.
func holdsFrom(t *testing.T, l [][]byte, from int, want []byte, size int) {
	t.Helper()
	for i := from; i < len(l); i++ {
		old := append(bytes.Clone(want[i*size:]), bytes.Repeat([]byte{0xFF}, size)...)[:size]
		if !bytes.Equal(l[i], old) {
			t.Fatalf("%d bytes, %d: part %d: %x; want %x", len(want), size, i, l[i], old)
		}
	}
}

// TestSameStays: Same changes nothing, and reads nothing behind the length of Data.
func TestSameStays(t *testing.T) {
	x, y := []byte("abcdefgh"), []byte("abcdEFGH")
	for length := range 9 {
		if got := frame.Same(of(1, 2, x[:length]), of(1, 2, y[:length])); got != (length < 5) {
			t.Errorf("%d: %v", length, got)
		}
	}
	if string(x) != "abcdefgh" || string(y) != "abcdEFGH" {
		t.Errorf("%s, %s", x, y)
	}
}

// TestSameAnswers: an answer hangs on the arguments alone, not on the calls ahead of it; no Data, nil and empty, are the same.
func TestSameAnswers(t *testing.T) {
	for range 3 {
		refused(t, nil, api.ErrEnd)
		refused(t, []byte{}, api.ErrEnd)
		refused(t, []byte("abc"), api.ErrForm)
		a, _ := frame.Put(of(2, 1, nil))
		b, _ := frame.Put(of(2, 1, []byte{}))
		if !bytes.Equal(a, b) || len(a) != 16 {
			t.Errorf("%x, %x", a, b)
		}
		gotten(t, a, of(2, 1, []byte{}), 16)
		refused(t, a[:15], api.ErrForm)
		a[15] ^= 1
		refused(t, a, api.ErrSum)
		gotten(t, b, of(2, 1, nil), 16)
		padded(t, nil, 4)
		padded(t, []byte{}, 4)
		size(t, 4097, 0)
		pages(t, 3, 16, 2)
	}
}
