package codec_test

import (
	"bytes"
	"encoding/binary"
	"encoding/hex"
	"fmt"
	"math"
	"slices"
	"strings"
	"testing"

	"spence/api"
	"spence/codec"
)

// dice are numbers without a short rule in them, the same each time.
type dice uint64

func (d *dice) roll(n int) int {
	x := uint64(*d)
	x ^= x << 13
	x ^= x >> 7
	x ^= x << 17
	*d = dice(x)
	return int((x >> 11) % uint64(n))
}

// pick is one of a list.
func pick[T any](d *dice, l []T) T { return l[d.roll(len(l))] }

// some are so many bytes; a seed makes others.
func some(length, seed int) []byte {
	d := dice(88172645463325252 + 7919*seed)
	b := make([]byte, length)
	for i := range b {
		b[i] = byte(d.roll(256))
	}
	return b
}

// short is what something is, in a line that isn't too long.
func short(x any) string {
	s := fmt.Sprintf("%#v", x)
	return s[:min(len(s), 400)]
}

// unhex are the bytes of a text in which blanks play no part.
func unhex(s string) []byte {
	b, err := hex.DecodeString(strings.ReplaceAll(s, " ", ""))
	if err != nil {
		panic(err)
	}
	return b
}

// Numbers around the bounds of each field, and such as have the same lowest bytes as one that may be.
func objects() []int {
	return []int{0, 1, 2, 7, 14, 15, 16, 17, 31, 127, 128, 255, 256, 257, 256 + 15, 1 << 16, 1 << 32, 1<<32 + 3, 1 << 62, math.MaxInt, math.MaxInt - 255, -1, -2, -15, -16, -256, -255, -1 << 32, math.MinInt, math.MinInt + 1}
}

func gens() []int {
	return []int{0, 1, 2, 255, 256, 258, 65535, 65536, 1<<24 - 1, 1 << 24, 1<<31 - 2, 1<<31 - 1, 1 << 31, 1<<31 + 1, 1<<32 - 1, 1 << 32, 1<<32 + 1, 1 << 62, math.MaxInt, -1, -2, -1 << 31, -1<<31 - 1, -1 << 32, -1<<32 + 1, math.MinInt, math.MinInt + 1}
}

func shorts() []int {
	return []int{0, 1, 2, 255, 256, 257, 300, 4095, 4096, 4097, 4098, 8192, 1<<15 - 1, 1 << 15, 65535, 65536, 65537, 65536 + 4096, 1 << 32, 1<<32 + 1, math.MaxInt, -1, -2, -4096, -65535, -65536, -1 << 32, math.MinInt, math.MinInt + 1}
}

func ticks() []int {
	return []int{0, 1, 9, 255, 256, 65536, 1<<31 - 1, 1 << 31, 1 << 32, 1 << 56, 1<<62 - 2, 1<<62 - 1, 1 << 62, 1<<62 + 1, math.MaxInt - 1, math.MaxInt, -1, -2, -1 << 32, -1 << 62, math.MinInt, math.MinInt + 1}
}

func tags() []string {
	l := []string{
		"", "a", "v1-0", "v15-2147483647", "!", "#", "~", "\x80", "\xff", "W/", "W/a", "'", "\\", "ä", "\xff\xfe\x80",
		"\"", "a\"", "\"a\"", " ", "a b", " a", "a ", "\t", "\x00", "a\x00", "\x7f", "\x1f", "a\n",
	}
	for _, length := range []int{38, 39, 40, 41, 42, 80, 255, 256, 296} {
		l = append(l, strings.Repeat("x", length), strings.Repeat("\xff", length), strings.Repeat("x", length-1)+"\"", strings.Repeat("x", length-1)+" ")
	}
	return l
}

func bodies() [][]byte {
	l := [][]byte{nil, {}, {0}, {7}, {0xFF}, {'"'}, []byte("ab"), make([]byte, 64), bytes.Repeat([]byte{0xFF}, 64)}
	for _, length := range []int{2, 16, 31, 32, 62, 63, 64, 65, 66, 128, 255, 256, 257, 320, 5000} {
		l = append(l, some(length, length))
	}
	return l
}

// Independent readings of what may be.
func headed(object, gen int) bool {
	return object >= 0 && object < 16 && gen >= 1 && gen <= 2147483647
}

func tagged(s string) bool {
	if len(s) > 40 {
		return false
	}
	for _, c := range []byte(s) {
		if !(c == 33 || c >= 35 && c <= 126 || c >= 128) {
			return false
		}
	}
	return true
}

func bindMay(x api.Bind) bool {
	return headed(x.Object, x.Gen) && x.Length >= 0 && x.Length <= 4096 && x.Tick >= 0 && x.Tick <= 4611686018427387903 && tagged(x.Tag)
}

func pieceMay(x api.Piece) bool {
	return headed(x.Object, x.Gen) && x.Index >= 0 && x.Index <= 4096 && len(x.Body) >= 1 && len(x.Body) <= 64
}

// Independent readings of the bytes, laid by the library: also of what may not be, as far as its lowest bytes go.
func headBytes(object, gen int) []byte {
	return binary.BigEndian.AppendUint32([]byte{byte(object)}, uint32(gen))
}

func bindBytes(x api.Bind) []byte {
	b := binary.BigEndian.AppendUint16(headBytes(x.Object, x.Gen), uint16(x.Length))
	return append(binary.BigEndian.AppendUint64(b, uint64(x.Tick)), x.Tag...)
}

func pieceBytes(x api.Piece) []byte {
	return append(binary.BigEndian.AppendUint16(headBytes(x.Object, x.Gen), uint16(x.Index)), x.Body...)
}

// Independent readings of what bytes say; false of what isn't right.
func dropTold(kind byte, b []byte) (api.Drop, bool) {
	if len(b) != 5 {
		return api.Drop{}, false
	}
	x := api.Drop{Object: int(b[0]), Gen: int(binary.BigEndian.Uint32(b[1:])), Purge: kind == 5}
	if !headed(x.Object, x.Gen) {
		return api.Drop{}, false
	}
	return x, true
}

func bindTold(b []byte) (api.Bind, bool) {
	if len(b) < 15 || binary.BigEndian.Uint64(b[7:]) > 1<<62-1 {
		return api.Bind{}, false
	}
	x := api.Bind{
		Object: int(b[0]), Gen: int(binary.BigEndian.Uint32(b[1:])), Length: int(binary.BigEndian.Uint16(b[5:])),
		Tick: int(binary.BigEndian.Uint64(b[7:])), Tag: string(b[15:]),
	}
	if !bindMay(x) {
		return api.Bind{}, false
	}
	return x, true
}

func pieceTold(b []byte) (api.Piece, bool) {
	if len(b) < 8 {
		return api.Piece{}, false
	}
	x := api.Piece{Object: int(b[0]), Gen: int(binary.BigEndian.Uint32(b[1:])), Index: int(binary.BigEndian.Uint16(b[5:])), Body: b[7:]}
	if !pieceMay(x) {
		return api.Piece{}, false
	}
	return x, true
}

func objectTold(kind byte, b []byte) (int, bool) {
	is := false
	switch kind {
	case 2:
		_, is = bindTold(b)
	case 3:
		_, is = pieceTold(b)
	case 4, 5:
		_, is = dropTold(kind, b)
	}
	if !is {
		return 0, false
	}
	return int(b[0]), true
}

// alike is whether two pieces are.
func alike(a, b api.Piece) bool {
	return [3]int{a.Object, a.Gen, a.Index} == [3]int{b.Object, b.Gen, b.Index} && string(a.Body) == string(b.Body)
}

// laid holds what a Put answers against the bytes that it must, or ErrArg and none.
func laid(t *testing.T, x any, b []byte, e api.Errno, may bool, want []byte) {
	t.Helper()
	if !may && (e != api.ErrArg || b != nil) {
		t.Fatalf("Put of %s: %.60x, %d; want ErrArg alone", short(x), b, e)
	}
	if may && (e != api.OK || !bytes.Equal(b, want)) {
		t.Fatalf("Put of %s: %.60x, %d; want %.60x", short(x), b, e, want)
	}
}

// putBind, putPiece and putDrop hold Put against the independent reading, and Get of what it lays against what was put.
func putBind(t *testing.T, x api.Bind) {
	t.Helper()
	b, e := codec.PutBind(x)
	laid(t, x, b, e, bindMay(x), bindBytes(x))
	if e != api.OK {
		return
	}
	if y, e := codec.GetBind(b); e != api.OK || y != x {
		t.Fatalf("Get of Put: %s, %d; want %s", short(y), e, short(x))
	}
}

func putPiece(t *testing.T, x api.Piece) {
	t.Helper()
	b, e := codec.PutPiece(x)
	laid(t, x, b, e, pieceMay(x), pieceBytes(x))
	if e != api.OK {
		return
	}
	if y, e := codec.GetPiece(b); e != api.OK || !alike(x, y) {
		t.Fatalf("Get of Put: %s, %d; want %s", short(y), e, short(x))
	}
}

// kindOf is the kind of record that a drop has.
func kindOf(x api.Drop) byte {
	if x.Purge {
		return api.KindPurge
	}
	return api.KindDrop
}

func putDrop(t *testing.T, x api.Drop) {
	t.Helper()
	b, e := codec.PutDrop(x)
	laid(t, x, b, e, headed(x.Object, x.Gen), headBytes(x.Object, x.Gen))
	if e != api.OK {
		return
	}
	if y, e := codec.GetDrop(kindOf(x), b); e != api.OK || y != x {
		t.Fatalf("Get of Put: %s, %d; want %s", short(y), e, short(x))
	}
}

// errno is OK of what is right, else ErrForm.
func errno(right bool) api.Errno {
	if right {
		return api.OK
	}
	return api.ErrForm
}

// getBind, getPiece, getDrop and object hold a call against the independent reading, and Put of what it tells against the bytes.
func getBind(t *testing.T, b []byte) bool {
	t.Helper()
	x, e := codec.GetBind(b)
	want, right := bindTold(b)
	if x != want || e != errno(right) {
		t.Fatalf("GetBind(%.90x, in all %d): %s, %d; want %s, %v", b, len(b), short(x), e, short(want), right)
	}
	if again, e := codec.PutBind(x); right && (e != api.OK || !bytes.Equal(again, b)) {
		t.Fatalf("Put of Get of %x: %x, %d", b, again, e)
	}
	return right
}

func getPiece(t *testing.T, b []byte) bool {
	t.Helper()
	x, e := codec.GetPiece(b)
	want, right := pieceTold(b)
	if !alike(x, want) || e != errno(right) || !right && x.Body != nil {
		t.Fatalf("GetPiece(%.90x, in all %d): %s, %d; want %s, %v", b, len(b), short(x), e, short(want), right)
	}
	if again, e := codec.PutPiece(x); right && (e != api.OK || !bytes.Equal(again, b)) {
		t.Fatalf("Put of Get of %x: %x, %d", b, again, e)
	}
	return right
}

func getDrop(t *testing.T, kind byte, b []byte) bool {
	t.Helper()
	x, e := codec.GetDrop(kind, b)
	want, right := dropTold(kind, b)
	if x != want || e != errno(right) {
		t.Fatalf("GetDrop(%d, %.90x, in all %d): %s, %d; want %s, %v", kind, b, len(b), short(x), e, short(want), right)
	}
	if again, e := codec.PutDrop(x); right && (e != api.OK || !bytes.Equal(again, b)) {
		t.Fatalf("Put of Get of %x: %x, %d", b, again, e)
	}
	return right
}

func object(t *testing.T, kind byte, b []byte) bool {
	t.Helper()
	n, is := codec.Object(kind, b)
	want, right := objectTold(kind, b)
	if n != want || is != right {
		t.Fatalf("Object(%d, %.90x, in all %d): %d, %v; want %d, %v", kind, b, len(b), n, is, want, right)
	}
	return is
}

// get holds all calls that read bytes against the independent reading, and tells how many of the three are right.
func get(t *testing.T, b []byte) int {
	t.Helper()
	count := 0
	for _, is := range []bool{getBind(t, b), getPiece(t, b), getDrop(t, api.KindDrop, b) && getDrop(t, api.KindPurge, b)} {
		if is {
			count++
		}
	}
	for kind := range byte(7) {
		object(t, kind, b)
	}
	return count
}

// binds, pieces and drops are right ones: ordinary, and at the bounds.
func binds() []api.Bind {
	return []api.Bind{
		{Object: 3, Gen: 258, Tag: "v1-0", Length: 300, Tick: 9},
		{Gen: 1},
		{Object: 15, Gen: 1<<31 - 1, Tag: strings.Repeat("\xff", 40), Length: 4096, Tick: 1<<62 - 1},
		{Object: 1, Gen: 0x01020304, Tag: "!#~\x80", Length: 0x0506, Tick: 0x0708090A0B0C0D0E},
		{Object: 15, Gen: 1, Tag: "W/a"},
		{Object: 4, Gen: 1 << 16, Tag: strings.Repeat("x", 39), Length: 4095, Tick: 1 << 40},
		// what looks like a Piece, and like a Drop, as far as they go
		{Object: 4, Gen: 5, Length: 5, Tick: 7, Tag: "v"},
	}
}

func pieces() []api.Piece {
	return []api.Piece{
		{Object: 1, Gen: 2, Index: 5, Body: []byte{7}},
		{Gen: 1, Body: []byte{0}},
		{Object: 15, Gen: 1<<31 - 1, Index: 4096, Body: bytes.Repeat([]byte{0xFF}, 64)},
		{Object: 2, Gen: 0x01020304, Index: 0x0506, Body: []byte("bytes of a slice")},
		{Object: 9, Gen: 1, Index: 4095, Body: some(63, 1)},
		{Object: 9, Gen: 77, Index: 64, Body: some(64, 2)},
		// what looks like a Bind
		{Object: 3, Gen: 258, Index: 300, Body: append(make([]byte, 8), "v1-0"...)},
	}
}

func drops() []api.Drop {
	l := []api.Drop{{Object: 2, Gen: 4}, {Gen: 1}, {Object: 15, Gen: 1<<31 - 1}, {Object: 7, Gen: 0x01020304}, {Object: 4, Gen: 5}, {Object: 5, Gen: 4}}
	for _, x := range slices.Clone(l) {
		x.Purge = true
		l = append(l, x)
	}
	return l
}

// rights are the bytes of all of these.
func rights() [][]byte {
	var l [][]byte
	for _, x := range binds() {
		l = append(l, bindBytes(x))
	}
	for _, x := range pieces() {
		l = append(l, pieceBytes(x))
	}
	for _, x := range drops() {
		l = append(l, headBytes(x.Object, x.Gen))
	}
	return l
}

// P17.1.

// TestPutByHand: bytes that were told beside the program.
func TestPutByHand(t *testing.T) {
	for _, c := range []struct {
		x    api.Bind
		want string
	}{
		{api.Bind{Object: 3, Gen: 258, Tag: "v1-0", Length: 300, Tick: 9}, "03 00000102 012c 0000000000000009 76312d30"},
		{api.Bind{Gen: 1}, "00 00000001 0000 0000000000000000"},
		{api.Bind{Object: 15, Gen: 1<<31 - 1, Tag: "!#~\xff", Length: 4096, Tick: 1<<62 - 1}, "0f 7fffffff 1000 3fffffffffffffff 21237eff"},
		{api.Bind{Object: 1, Gen: 0x02030405, Tag: "z", Length: 0x0607, Tick: 0x08090A0B0C0D0E0F}, "01 02030405 0607 08090a0b0c0d0e0f 7a"},
	} {
		b, e := codec.PutBind(c.x)
		laid(t, c.x, b, e, true, unhex(c.want))
	}
	for _, c := range []struct {
		x    api.Piece
		want string
	}{
		{api.Piece{Object: 1, Gen: 2, Index: 5, Body: []byte{7}}, "01 00000002 0005 07"},
		{api.Piece{Gen: 1, Body: []byte{0}}, "00 00000001 0000 00"},
		{api.Piece{Object: 15, Gen: 1<<31 - 1, Index: 4096, Body: []byte("abc")}, "0f 7fffffff 1000 616263"},
		{api.Piece{Object: 2, Gen: 0x03040506, Index: 0x0708, Body: []byte{9, 0xFF, 0}}, "02 03040506 0708 09ff00"},
	} {
		b, e := codec.PutPiece(c.x)
		laid(t, c.x, b, e, true, unhex(c.want))
	}
	for _, c := range []struct {
		x    api.Drop
		want string
	}{
		{api.Drop{Object: 2, Gen: 4}, "02 00000004"}, {api.Drop{Object: 2, Gen: 4, Purge: true}, "02 00000004"},
		{api.Drop{Gen: 1}, "00 00000001"}, {api.Drop{Object: 15, Gen: 1<<31 - 1, Purge: true}, "0f 7fffffff"}, {api.Drop{Object: 1, Gen: 0x02030405}, "01 02030405"},
	} {
		b, e := codec.PutDrop(c.x)
		laid(t, c.x, b, e, true, unhex(c.want))
	}
}

// TestBoundsByHand: each field at its bounds and behind them, all others right; told beside the program.
func TestBoundsByHand(t *testing.T) {
	type row struct {
		n   int
		may bool
	}
	objects := []row{{0, true}, {15, true}, {16, false}, {-1, false}, {256, false}, {259, false}, {math.MaxInt, false}, {math.MinInt, false}}
	gens := []row{{0, false}, {1, true}, {1<<31 - 1, true}, {1 << 31, false}, {-1, false}, {1<<32 + 1, false}, {math.MaxInt, false}, {math.MinInt, false}, {math.MinInt + 1, false}}
	shorts := []row{{0, true}, {4096, true}, {4097, false}, {-1, false}, {65536, false}, {65537, false}, {math.MaxInt, false}, {math.MinInt, false}}
	ticks := []row{{0, true}, {1<<62 - 1, true}, {1 << 62, false}, {-1, false}, {math.MaxInt, false}, {math.MinInt, false}}
	hold := func(x any, e api.Errno, b []byte, may bool) {
		t.Helper()
		if may != (e == api.OK) || may != (b != nil) || !may && e != api.ErrArg {
			t.Errorf("Put of %s: %x, %d; may be: %v", short(x), b, e, may)
		}
	}
	bind := func(may bool, x api.Bind) {
		t.Helper()
		b, e := codec.PutBind(x)
		hold(x, e, b, may)
	}
	piece := func(may bool, x api.Piece) {
		t.Helper()
		b, e := codec.PutPiece(x)
		hold(x, e, b, may)
	}
	drop := func(may bool, x api.Drop) {
		t.Helper()
		b, e := codec.PutDrop(x)
		hold(x, e, b, may)
		x.Purge = true
		b, e = codec.PutDrop(x)
		hold(x, e, b, may)
	}
	for _, r := range objects {
		bind(r.may, api.Bind{Object: r.n, Gen: 1, Tag: "a"})
		piece(r.may, api.Piece{Object: r.n, Gen: 1, Body: []byte{1}})
		drop(r.may, api.Drop{Object: r.n, Gen: 1})
	}
	for _, r := range gens {
		bind(r.may, api.Bind{Object: 1, Gen: r.n, Tag: "a"})
		piece(r.may, api.Piece{Object: 1, Gen: r.n, Body: []byte{1}})
		drop(r.may, api.Drop{Object: 1, Gen: r.n})
	}
	for _, r := range shorts {
		bind(r.may, api.Bind{Object: 1, Gen: 1, Length: r.n})
		piece(r.may, api.Piece{Object: 1, Gen: 1, Index: r.n, Body: []byte{1}})
	}
	for _, r := range ticks {
		bind(r.may, api.Bind{Object: 1, Gen: 1, Tick: r.n})
	}
	for length := range 300 {
		bind(length <= 40, api.Bind{Gen: 1, Tag: strings.Repeat("t", length)})
		piece(length >= 1 && length <= 64, api.Piece{Gen: 1, Body: make([]byte, length)})
	}
	piece(false, api.Piece{Gen: 1})
	piece(false, api.Piece{Gen: 1, Body: []byte{}})
	bind(false, api.Bind{})
	piece(false, api.Piece{})
	drop(false, api.Drop{})
}

// TestPutTags: each byte that a validator may or may not have, alone and among others, at each place.
func TestPutTags(t *testing.T) {
	for c := range 256 {
		one := string([]byte{byte(c)})
		for _, tag := range []string{one, one + one, "a" + one, one + "a", "ab" + one + "cd", strings.Repeat(one, 40), strings.Repeat(one, 41)} {
			putBind(t, api.Bind{Object: 1, Gen: 2, Tag: tag})
			get(t, bindBytes(api.Bind{Object: 1, Gen: 2, Tag: tag}))
		}
		for at := range 40 {
			tag := strings.Repeat("x", at) + one + strings.Repeat("y", 39-at)
			putBind(t, api.Bind{Object: 1, Gen: 2, Tag: tag})
			get(t, bindBytes(api.Bind{Object: 1, Gen: 2, Tag: tag}))
		}
	}
	for _, c := range []struct {
		tag string
		may bool
	}{{"!", true}, {"#", true}, {"~", true}, {"\x80", true}, {"\xff", true}, {"\"", false}, {" ", false}, {"\x7f", false}, {"\x00", false}, {"\x1f", false}, {"", true}} {
		if _, e := codec.PutBind(api.Bind{Gen: 1, Tag: c.tag}); c.may != (e == api.OK) {
			t.Errorf("tag %q: %d", c.tag, e)
		}
	}
}

// TestPutNumbers: which bytes a number has: each byte of it as each other one, each bit.
func TestPutNumbers(t *testing.T) {
	for value := -70; value < 70000; value++ {
		putBind(t, api.Bind{Object: 1, Gen: 1, Length: value})
		putPiece(t, api.Piece{Object: 1, Gen: 1, Index: value, Body: []byte{1}})
	}
	for value := -300; value < 600; value++ {
		putBind(t, api.Bind{Object: value, Gen: 1})
		putPiece(t, api.Piece{Object: value, Gen: 1, Body: []byte{1}})
		putDrop(t, api.Drop{Object: value, Gen: 1})
		putDrop(t, api.Drop{Object: value, Gen: 1, Purge: true})
	}
	for at := range 8 {
		for x := range 256 {
			for _, n := range []int{x << (8 * at), x<<(8*at) | 1, ^(x << (8 * at)), 0x0102030405060708&^(255<<(8*at)) | x<<(8*at)} {
				putBind(t, api.Bind{Object: 1, Gen: 1, Tick: n})
				putBind(t, api.Bind{Object: 1, Gen: n})
				putPiece(t, api.Piece{Object: 1, Gen: n, Body: []byte{1}})
				putDrop(t, api.Drop{Object: 1, Gen: n})
			}
		}
	}
	for bit := range 63 {
		for _, n := range []int{1 << bit, 1<<bit - 1, 1<<bit + 1, -1 << bit} {
			putBind(t, api.Bind{Object: 1, Gen: 1, Tick: n})
			putBind(t, api.Bind{Object: 1, Gen: n})
			putDrop(t, api.Drop{Object: n, Gen: 1})
			putDrop(t, api.Drop{Object: 1, Gen: n, Purge: true})
		}
	}
}

// TestPutEach: all fields at all their edges, each pair of them.
func TestPutEach(t *testing.T) {
	for _, o := range objects() {
		for _, g := range gens() {
			putDrop(t, api.Drop{Object: o, Gen: g})
			putDrop(t, api.Drop{Object: o, Gen: g, Purge: true})
			for _, n := range shorts() {
				putBind(t, api.Bind{Object: o, Gen: g, Tag: "v", Length: n})
				for _, body := range bodies() {
					putPiece(t, api.Piece{Object: o, Gen: g, Index: n, Body: body})
				}
			}
		}
	}
	for _, n := range shorts() {
		for _, tick := range ticks() {
			for _, tag := range tags() {
				for _, g := range []int{0, 1, 1<<31 - 1, 1 << 31} {
					putBind(t, api.Bind{Object: g & 15, Gen: g, Tag: tag, Length: n, Tick: tick})
				}
			}
		}
	}
	for _, o := range objects() {
		for _, tick := range ticks() {
			for _, tag := range tags() {
				putBind(t, api.Bind{Object: o, Gen: 1, Tag: tag, Tick: tick})
			}
		}
	}
}

// TestPutBodies: a body of each length, and of each byte, as it is.
func TestPutBodies(t *testing.T) {
	for length := range 400 {
		putPiece(t, api.Piece{Object: 2, Gen: 3, Index: 4, Body: some(length, length)})
		putPiece(t, api.Piece{Object: 2, Gen: 3, Index: 4, Body: make([]byte, length)})
	}
	for c := range 256 {
		putPiece(t, api.Piece{Object: 2, Gen: 3, Body: []byte{byte(c)}})
		putPiece(t, api.Piece{Object: 2, Gen: 3, Body: bytes.Repeat([]byte{byte(c)}, 64)})
	}
}

// P17.2.

// TestGetByHand: what bytes say, told beside the program.
func TestGetByHand(t *testing.T) {
	b := unhex("03 00000102 012c 0000000000000009 76312d30")
	if x, e := codec.GetBind(b); e != api.OK || x != (api.Bind{Object: 3, Gen: 258, Tag: "v1-0", Length: 300, Tick: 9}) {
		t.Errorf("%+v, %d", x, e)
	}
	p := unhex("0f 7fffffff 1000 616263")
	if x, e := codec.GetPiece(p); e != api.OK || x.Object != 15 || x.Gen != 1<<31-1 || x.Index != 4096 || string(x.Body) != "abc" {
		t.Errorf("%+v, %d", x, e)
	}
	d := unhex("02 00000004")
	if x, e := codec.GetDrop(api.KindDrop, d); e != api.OK || x != (api.Drop{Object: 2, Gen: 4}) {
		t.Errorf("%+v, %d", x, e)
	}
	if x, e := codec.GetDrop(api.KindPurge, d); e != api.OK || x != (api.Drop{Object: 2, Gen: 4, Purge: true}) {
		t.Errorf("%+v, %d", x, e)
	}
	for _, c := range []struct {
		kind byte
		b    []byte
		want int
		is   bool
	}{
		{2, b, 3, true}, {3, b, 3, true}, {4, b, 0, false}, {5, b, 0, false}, {1, b, 0, false}, {0, b, 0, false}, {6, b, 0, false},
		{3, p, 15, true}, {2, p, 0, false}, {4, p, 0, false}, {5, p, 0, false}, {1, p, 0, false},
		{4, d, 2, true}, {5, d, 2, true}, {2, d, 0, false}, {3, d, 0, false}, {1, d, 0, false}, {255, d, 0, false},
		{2, nil, 0, false}, {3, nil, 0, false}, {4, nil, 0, false}, {5, nil, 0, false}, {0, nil, 0, false},
	} {
		if n, is := codec.Object(c.kind, c.b); n != c.want || is != c.is {
			t.Errorf("Object(%d, %x): %d, %v; want %d, %v", c.kind, c.b, n, is, c.want, c.is)
		}
	}
}

// TestGetWrongByHand: one thing alone that may not be, all others right.
func TestGetWrongByHand(t *testing.T) {
	for _, s := range []string{
		"10 00000102 012c 0000000000000009 76312d30", // Object 16
		"ff 00000102 012c 0000000000000009 76312d30", // Object 255
		"83 00000102 012c 0000000000000009 76312d30", // Object 131
		"03 00000000 012c 0000000000000009 76312d30", // Gen 0
		"03 80000000 012c 0000000000000009 76312d30", // Gen 2^31
		"03 ffffffff 012c 0000000000000009 76312d30", // Gen 2^32 - 1
		"03 80000102 012c 0000000000000009 76312d30", // Gen 2^31 + 258
		"03 00000102 1001 0000000000000009 76312d30", // Length 4,097
		"03 00000102 812c 0000000000000009 76312d30", // Length 33,068
		"03 00000102 ffff 0000000000000009 76312d30", // Length 65,535
		"03 00000102 012c 4000000000000000 76312d30", // Tick 2^62
		"03 00000102 012c 4000000000000009 76312d30", // Tick 2^62 + 9
		"03 00000102 012c 8000000000000009 76312d30", // Tick 2^63 + 9
		"03 00000102 012c ffffffffffffffff 76312d30", // Tick 2^64 - 1
		"03 00000102 012c 0000000000000009 76312230", // a quote in the tag
		"03 00000102 012c 0000000000000009 20312d30", // a blank
		"03 00000102 012c 0000000000000009 76312d7f", // del
		"03 00000102 012c 0000000000000009 76312d00", // nought
		"03 00000102 012c 0000000000000009" + strings.Repeat("61", 41),
		"03 00000102 012c 00000000000009", // 14 bytes
		"", "03",
	} {
		if x, e := codec.GetBind(unhex(s)); e != api.ErrForm || x != (api.Bind{}) {
			t.Errorf("GetBind(%s): %+v, %d", s, x, e)
		}
	}
	for _, s := range []string{
		"10 00000002 0005 07", "ff 00000002 0005 07", "81 00000002 0005 07",
		"01 00000000 0005 07", "01 80000000 0005 07", "01 80000002 0005 07", "01 ffffffff 0005 07",
		"01 00000002 1001 07", "01 00000002 8005 07", "01 00000002 ffff 07",
		"01 00000002 0005", "01 00000002 00", "01 00000002", "01", "",
		"01 00000002 0005" + strings.Repeat("07", 65), "01 00000002 0005" + strings.Repeat("07", 256), "01 00000002 0005" + strings.Repeat("07", 320),
	} {
		if x, e := codec.GetPiece(unhex(s)); e != api.ErrForm || x.Object != 0 || x.Gen != 0 || x.Index != 0 || x.Body != nil {
			t.Errorf("GetPiece(%s): %+v, %d", s, x, e)
		}
	}
	for _, s := range []string{
		"10 00000004", "ff 00000004", "82 00000004", "02 00000000", "02 80000000", "02 80000004", "02 ffffffff",
		"02 000004", "02 0000000400", "02 0000000004", "02", "", "02 00000004 0000 07",
	} {
		for kind := range 256 {
			if x, e := codec.GetDrop(byte(kind), unhex(s)); e != api.ErrForm || x != (api.Drop{}) {
				t.Errorf("GetDrop(%d, %s): %+v, %d", kind, s, x, e)
			}
		}
	}
}

// TestGetLengths: right records cut off at each place, and with bytes behind them; so many bytes of each kind.
func TestGetLengths(t *testing.T) {
	get(t, nil)
	get(t, []byte{})
	for _, b := range rights() {
		for length := range b {
			get(t, b[:length])
			get(t, b[length:])
		}
		for _, tail := range [][]byte{{0}, {0xFF}, {'x'}, {1, 2}, make([]byte, 64), bytes.Repeat([]byte{'x'}, 64), b} {
			get(t, append(bytes.Clone(b), tail...))
			get(t, append(bytes.Clone(tail), b...))
		}
	}
	for length := range 400 {
		for _, c := range []byte{0, 1, 'x', 0xFF} {
			get(t, bytes.Repeat([]byte{c}, length))
			get(t, append(headBytes(3, 7), bytes.Repeat([]byte{c}, length)...))
			get(t, append(bindBytes(api.Bind{Gen: 7}), bytes.Repeat([]byte{c}, length)...))
		}
		b := append(bindBytes(api.Bind{Object: 1, Gen: 7}), bytes.Repeat([]byte{'x'}, length)...)
		if _, e := codec.GetBind(b); (e == api.OK) != (length <= 40) {
			t.Errorf("a tag of %d bytes: %d", length, e)
		}
		b = append(headBytes(1, 7), make([]byte, 2+length)...)
		if _, e := codec.GetPiece(b); (e == api.OK) != (length >= 1 && length <= 64) {
			t.Errorf("a body of %d bytes: %d", length, e)
		}
		b = append(headBytes(1, 7), make([]byte, length)...)
		if _, e := codec.GetDrop(api.KindDrop, b); (e == api.OK) != (length == 0) {
			t.Errorf("%d bytes behind a drop: %d", length, e)
		}
	}
	get(t, append(headBytes(1, 1), make([]byte, 1<<20)...))
	get(t, append(bindBytes(api.Bind{Gen: 1}), bytes.Repeat([]byte{'x'}, 1<<20)...))
}

// TestGetBytes: right records, each byte of them as each other one.
func TestGetBytes(t *testing.T) {
	for _, b := range rights() {
		if get(t, b) == 0 {
			t.Fatalf("%x is nothing", b)
		}
		for at := range b {
			for c := range 256 {
				other := bytes.Clone(b)
				other[at] = byte(c)
				get(t, other)
			}
		}
	}
}

// TestGetEdges: the bytes of what may be, and of what may not, as far as they go.
func TestGetEdges(t *testing.T) {
	for _, o := range []int{0, 1, 15, 16, 17, 128, 255} {
		for _, g := range []int{0, 1, 2, 1<<31 - 1, 1 << 31, 1<<31 + 1, 1<<32 - 1} {
			get(t, headBytes(o, g))
			for _, n := range []int{0, 1, 4095, 4096, 4097, 1 << 15, 65535} {
				for _, body := range bodies() {
					get(t, pieceBytes(api.Piece{Object: o, Gen: g, Index: n, Body: body}))
				}
				for _, tick := range []int{0, 1, 1<<62 - 1, 1 << 62, math.MaxInt, math.MinInt, math.MinInt + 1, -1} {
					for _, tag := range tags() {
						get(t, bindBytes(api.Bind{Object: o, Gen: g, Length: n, Tick: tick, Tag: tag}))
					}
				}
			}
		}
	}
}

// TestGetDropEach: all objects that a byte can tell, with each kind, each byte of a Gen, and each pair of them.
func TestGetDropEach(t *testing.T) {
	for kind := range 256 {
		for o := range 256 {
			for _, g := range []int{0, 1, 1<<31 - 1, 1 << 31} {
				getDrop(t, byte(kind), headBytes(o, g))
			}
		}
	}
	for hi := range 256 {
		for lo := range 256 {
			for _, b := range [][]byte{{3, byte(hi), 0, 0, byte(lo)}, {3, byte(hi), byte(lo), 0, 0}, {3, 0, byte(hi), byte(lo), 0}, {3, 0, 0, byte(hi), byte(lo)}, {byte(lo), byte(hi), 0, 0, 1}} {
				getDrop(t, api.KindDrop, b)
				getDrop(t, api.KindPurge, b)
			}
		}
	}
}

// TestGetDropKinds: of the kind hangs Purge alone.
func TestGetDropKinds(t *testing.T) {
	for kind := range 256 {
		x, e := codec.GetDrop(byte(kind), []byte{2, 0, 0, 0, 4})
		if e != api.OK || x != (api.Drop{Object: 2, Gen: 4, Purge: kind == api.KindPurge}) {
			t.Errorf("GetDrop of kind %d: %+v, %d", kind, x, e)
		}
	}
}

// TestObjectKinds: each kind, with the bytes of each right record, and of wrong ones.
func TestObjectKinds(t *testing.T) {
	for kind := range 256 {
		object(t, byte(kind), nil)
		object(t, byte(kind), []byte{})
		for _, b := range rights() {
			object(t, byte(kind), b)
			object(t, byte(kind), b[:len(b)-1])
			object(t, byte(kind), b[1:])
			object(t, byte(kind), append(bytes.Clone(b), 0))
			for _, o := range []byte{0, 1, 14, 15, 16, 17, 255} {
				other := bytes.Clone(b)
				other[0] = o
				object(t, byte(kind), other)
				other[1] |= 0x80
				object(t, byte(kind), other)
			}
		}
	}
	for o := range 16 {
		for _, c := range []struct {
			kind byte
			b    []byte
		}{
			{api.KindBind, bindBytes(api.Bind{Object: o, Gen: 1})}, {api.KindPiece, pieceBytes(api.Piece{Object: o, Gen: 1, Body: []byte{9}})},
			{api.KindDrop, headBytes(o, 1)}, {api.KindPurge, headBytes(o, 1)},
		} {
			if n, is := codec.Object(c.kind, c.b); n != o || !is {
				t.Errorf("Object(%d, %x): %d, %v", c.kind, c.b, n, is)
			}
			for kind := range 256 {
				if kind >= api.KindBind && kind <= api.KindPurge {
					continue
				}
				if n, is := codec.Object(byte(kind), c.b); n != 0 || is {
					t.Errorf("Object(%d, %x): %d, %v", kind, c.b, n, is)
				}
			}
		}
	}
}

// P17.3.

// TestRandomPut: fields by dice, around their bounds and within them: Get of Put is what was put, or Put answers ErrArg.
func TestRandomPut(t *testing.T) {
	d := dice(77)
	near := func(l []int, most int) int {
		if d.roll(6) == 0 {
			return pick(&d, l)
		}
		return 1 + d.roll(most)
	}
	tag := func() string {
		if d.roll(6) == 0 {
			return pick(&d, tags())
		}
		b := make([]byte, d.roll(44))
		for i := range b {
			b[i] = byte(d.roll(256))
			for d.roll(40) != 0 && !tagged(string(b[i])) {
				b[i] = 'a' + b[i]%26
			}
		}
		return string(b)
	}
	count := [2]int{}
	for round := range 200000 {
		o, g, n := near(objects(), 15), near(gens(), 1<<31-1), near(shorts(), 4096)
		x := api.Bind{Object: o, Gen: g, Tag: tag(), Length: n, Tick: near(ticks(), 1<<62-1)}
		putBind(t, x)
		putPiece(t, api.Piece{Object: o, Gen: g, Index: n, Body: some(d.roll(67), round)})
		putDrop(t, api.Drop{Object: o, Gen: g, Purge: d.roll(2) == 0})
		if bindMay(x) {
			count[0]++
		} else {
			count[1]++
		}
	}
	if min(count[0], count[1]) < 20000 {
		t.Errorf("right and wrong ones: %d", count)
	}
}

// TestRandomGet: bytes by dice, most of them near those of what is right: Put of Get are these bytes, or Get answers ErrForm.
func TestRandomGet(t *testing.T) {
	d := dice(78)
	all := rights()
	count := [4]int{}
	for round := range 300000 {
		var b []byte
		switch d.roll(4) {
		case 0:
			b = some(d.roll(80), round)
		case 1:
			b = append(headBytes(d.roll(18), d.roll(1<<31)), some(d.roll(80), round)...)
		case 2:
			b = append(bindBytes(api.Bind{Object: d.roll(18), Gen: d.roll(1 << 31), Length: d.roll(4200), Tick: d.roll(1 << 62)}), some(d.roll(4), round)...)
		case 3:
			b = bytes.Clone(pick(&d, all))
		}
		for range d.roll(3) {
			if len(b) > 0 {
				b[d.roll(len(b))] = byte(d.roll(256))
			}
		}
		b = b[:len(b)-min(len(b), d.roll(3)*d.roll(3))]
		count[get(t, b)]++
	}
	// A Bind has bytes enough for a Piece, and may be one; a Drop is neither.
	if count[0] < 20000 || count[1] < 20000 || count[2] < 20000 || count[3] != 0 {
		t.Errorf("bytes that are none of them, one, two, three: %d", count)
	}
}

// TestApart: no two that aren't the same have the same bytes, but for a drop and a purge.
func TestApart(t *testing.T) {
	seen := map[string]string{}
	tell := func(x string, b []byte, e api.Errno) {
		t.Helper()
		if e != api.OK {
			t.Fatalf("%s: %d", x, e)
		}
		if other, is := seen[x[:1]+string(b)]; is && other != x {
			t.Fatalf("%s and %s: %x", x, other, b)
		}
		seen[x[:1]+string(b)] = x
	}
	for o := range 16 {
		for _, g := range []int{1, 2, 256, 65536, 1 << 24} {
			b, e := codec.PutDrop(api.Drop{Object: o, Gen: g})
			tell(fmt.Sprint("D", o, g), b, e)
			for _, n := range []int{0, 1, 256, 4096} {
				for _, s := range []string{"a", "b", "ab", "ba"} {
					b, e = codec.PutPiece(api.Piece{Object: o, Gen: g, Index: n, Body: []byte(s)})
					tell(fmt.Sprint("P", o, g, n, s), b, e)
					for _, tick := range []int{0, 1, 256, 1 << 40} {
						b, e = codec.PutBind(api.Bind{Object: o, Gen: g, Length: n, Tag: s, Tick: tick})
						tell(fmt.Sprint("B", o, g, n, s, tick), b, e)
					}
				}
			}
		}
	}
}

// P2 and P3.

// behind is b with other bytes behind its length, in the same memory.
func behind(b, tail []byte) []byte {
	return append(bytes.Clone(b), tail...)[:len(b)]
}

// spoil writes other bytes over b, and over all the memory behind it that it has.
func spoil(b []byte) {
	b = b[:cap(b)]
	for i := range b {
		b[i] ^= 0x5A
	}
}

// TestGivenStays: what is handed in isn't changed, nor what lies behind it; and that plays no part.
func TestGivenStays(t *testing.T) {
	tails := [][]byte{{}, {0}, {0xFF, 0xFF}, []byte("more of a tag"), some(80, 3)}
	for _, right := range rights() {
		for length := range len(right) + 1 {
			for _, tail := range append(tails, right[length:]) {
				b := behind(right[:length], tail)
				whole := bytes.Clone(b[:cap(b)])
				get(t, b)
				if !bytes.Equal(b[:cap(b)], whole) {
					t.Fatalf("%x has become %x", whole, b[:cap(b)])
				}
			}
		}
	}
	for _, body := range bodies() {
		for _, tail := range tails {
			b := behind(body, tail)
			whole := bytes.Clone(b[:cap(b)])
			putPiece(t, api.Piece{Object: 1, Gen: 2, Index: 3, Body: b})
			if !bytes.Equal(b[:cap(b)], whole) {
				t.Fatalf("%x has become %x", whole, b[:cap(b)])
			}
		}
	}
}

// TestAnswersApart: what is handed out shares no memory with what came in, nor with another answer, and has nothing behind its length of what was given.
func TestAnswersApart(t *testing.T) {
	for _, x := range pieces() {
		body := behind(x.Body, []byte("secret"))
		want := pieceBytes(x)
		b1, _ := codec.PutPiece(api.Piece{Object: x.Object, Gen: x.Gen, Index: x.Index, Body: body})
		b2, _ := codec.PutPiece(api.Piece{Object: x.Object, Gen: x.Gen, Index: x.Index, Body: body})
		if bytes.Contains(b1[:cap(b1)], []byte("secret")) {
			t.Fatalf("behind the bytes: %x", b1[:cap(b1)])
		}
		given := behind(want, []byte("secret"))
		y1, _ := codec.GetPiece(given)
		y2, _ := codec.GetPiece(given)
		if bytes.Contains(y1.Body[:cap(y1.Body)], []byte("secret")) {
			t.Fatalf("behind the body: %x", y1.Body[:cap(y1.Body)])
		}
		spoil(body)
		spoil(given)
		if !bytes.Equal(b1, want) || !alike(y1, x) {
			t.Fatalf("spoilt what was given: %x, %s", b1, short(y1))
		}
		spoil(b1)
		spoil(y1.Body)
		if !bytes.Equal(b2, want) || !alike(y2, x) {
			t.Fatalf("spoilt an answer: %x, %s", b2, short(y2))
		}
		spoil(body)
		spoil(given)
		if !bytes.Equal(body, x.Body) || !bytes.Equal(given, want) {
			t.Fatalf("an answer was a part of what was given: %x, %x", body, given)
		}
		putPiece(t, x)
	}
	for _, x := range binds() {
		b1, _ := codec.PutBind(x)
		b2, _ := codec.PutBind(x)
		given := behind(bindBytes(x), []byte("secret"))
		y, _ := codec.GetBind(given)
		spoil(given)
		spoil(b1)
		if y != x || !bytes.Equal(b2, bindBytes(x)) {
			t.Fatalf("%s: %s, %x", short(x), short(y), b2)
		}
		putBind(t, x)
	}
	for _, x := range drops() {
		b1, _ := codec.PutDrop(x)
		b2, _ := codec.PutDrop(x)
		spoil(b1)
		if !bytes.Equal(b2, headBytes(x.Object, x.Gen)) {
			t.Fatalf("%+v: %x", x, b2)
		}
		putDrop(t, x)
	}
}

// TestNone: a nil slice and an empty one are the same, also one that has memory behind it.
func TestNone(t *testing.T) {
	right := bindBytes(binds()[0])
	for _, b := range [][]byte{nil, {}, right[:0], right[len(right):], make([]byte, 0, 64)} {
		if get(t, b) != 0 {
			t.Errorf("no bytes are something")
		}
		putPiece(t, api.Piece{Object: 1, Gen: 1, Body: b})
	}
}

// TestAlways: the same arguments, the same answers.
func TestAlways(t *testing.T) {
	first := map[string]string{}
	for range 3 {
		for _, b := range rights() {
			x, e1 := codec.GetBind(b)
			y, e2 := codec.GetPiece(b)
			z, e3 := codec.GetDrop(api.KindPurge, b)
			n, is := codec.Object(api.KindPiece, b)
			told := fmt.Sprint(x, e1, y, e2, z, e3, n, is)
			if was, seen := first[string(b)]; seen && was != told {
				t.Errorf("%x: %s, then %s", b, was, told)
			}
			first[string(b)] = told
		}
	}
}
