package frame_test

import (
	"bytes"
	"encoding/binary"
	"go/parser"
	"go/token"
	"hash/crc32"
	"math"
	"math/rand"
	"slices"
	"strings"
	"sync"
	"testing"

	"tugger/api"
	"tugger/frame"
)

// most is the greatest number of bytes of a frame's contents.
const most = 1000000

// put returns the frame of bytes, which must be possible.
func put(t *testing.T, b []byte) []byte {
	t.Helper()
	f, e := frame.Put(b)
	if e != api.OK {
		t.Fatalf("Put of %d bytes: %d", len(b), e)
	}
	return f
}

// build returns the frame of bytes by the library's means, of as many bytes as are given.
func build(b []byte) []byte {
	f := append(binary.AppendUvarint(nil, uint64(len(b))), b...)
	return binary.LittleEndian.AppendUint32(f, crc32.ChecksumIEEE(b))
}

// filled returns bytes of all kinds, the same ones for the same number.
func filled(many int) []byte {
	b := make([]byte, many)
	rand.New(rand.NewSource(int64(many))).Read(b)
	return b
}

// join returns copies of bytes, one after the other.
func join(l ...[]byte) []byte { return bytes.Join(l, nil) }

// expect reports what Scan answers other than wanted.
func expect(t *testing.T, name string, b []byte, want [][]byte, size, rest int) {
	t.Helper()
	l, n, r := frame.Scan(b)
	if !slices.EqualFunc(l, want, bytes.Equal) {
		t.Errorf("%s: Scan returns %d contents, which are not the %d wanted ones", name, len(l), len(want))
	}
	if n != size || r != rest {
		t.Errorf("%s: Scan returns length %d and state %d, want %d and %d", name, n, r, size, rest)
	}
}

func TestStatesOfTheRest(t *testing.T) {
	if frame.Whole != 0 || frame.Torn != 1 || frame.Bad != 2 {
		t.Error(frame.Whole, frame.Torn, frame.Bad)
	}
}

// slow is the checksum bit by bit, as the chapter words it.
func slow(b []byte) uint32 {
	c := uint32(math.MaxUint32)
	for _, x := range b {
		c ^= uint32(x)
		for range 8 {
			odd := c%2 == 1
			c /= 2
			if odd {
				c ^= 3988292384
			}
		}
	}
	return ^c
}

func TestCheck(t *testing.T) {
	for _, c := range []struct {
		b    string
		want uint32
	}{
		{"", 0},
		{"123456789", 0xcbf43926},
		{"\x00", 0xd202ef8d},
		{"\xff", 0xff000000},
		{"\x00\x00\x00\x00", 0x2144df1c},
		{"\xff\xff\xff\xff", 0xffffffff},
	} {
		if sum := frame.Check([]byte(c.b)); sum != c.want {
			t.Errorf("Check(%q) = %x, want %x", c.b, sum, c.want)
		}
	}
	if sum := frame.Check(nil); sum != 0 {
		t.Errorf("Check(nil) = %x", sum)
	}
	for i := range 256 {
		b := []byte{byte(i)}
		if sum := frame.Check(b); sum != slow(b) {
			t.Errorf("Check(%v) = %x, want %x", b, sum, slow(b))
		}
	}
	for _, many := range []int{1, 2, 3, 4, 5, 31, 32, 33, 255, 256, 1000, most, most + 1} {
		b := filled(many)
		if sum := frame.Check(b); sum != slow(b) || sum != crc32.ChecksumIEEE(b) {
			t.Errorf("Check of %d bytes = %x, want %x", many, sum, slow(b))
		}
	}
}

func TestPutBuildsFrames(t *testing.T) {
	for _, c := range []struct{ b, want string }{
		{"", "\x00\x00\x00\x00\x00"},
		{"123456789", "\x09123456789\x26\x39\xf4\xcb"},
		{"\x00", "\x01\x00\x8d\xef\x02\xd2"},
		{"\x00\x00\x00\x00", "\x04\x00\x00\x00\x00\x1c\xdf\x44\x21"},
	} {
		if f := put(t, []byte(c.b)); string(f) != c.want {
			t.Errorf("Put(%q) = %q, want %q", c.b, f, c.want)
		}
	}
	if f := put(t, nil); string(f) != "\x00\x00\x00\x00\x00" {
		t.Errorf("Put(nil) = %q", f)
	}
	for many, head := range map[int]string{
		127: "\x7f", 128: "\x80\x01", 16383: "\xff\x7f", 16384: "\x80\x80\x01", most: "\xc0\x84\x3d",
	} {
		b := filled(many)
		f := put(t, b)
		if !strings.HasPrefix(string(f), head) || !bytes.Equal(f, build(b)) {
			t.Errorf("Put of %d bytes is not their frame", many)
		}
	}
}

func TestPutRefusesTooMany(t *testing.T) {
	for _, many := range []int{most + 1, most + 2, 2 * most} {
		if f, e := frame.Put(make([]byte, many)); len(f) != 0 || e != api.ErrMany {
			t.Errorf("Put of %d bytes: %d bytes, %d", many, len(f), e)
		}
	}
}

func TestScanReturnsWhatWasPut(t *testing.T) {
	expect(t, "nil", nil, nil, 0, frame.Whole)
	expect(t, "empty", []byte{}, nil, 0, frame.Whole)
	var all []byte
	var want [][]byte
	for _, many := range []int{0, 0, 1, 9, 0, 127, 128, 129, 16383, 16384, most - 1, most, 0, 5} {
		b := filled(many)
		f := put(t, b)
		expect(t, "alone", f, [][]byte{b}, len(f), frame.Whole)
		all = append(all, f...)
		want = append(want, b)
		expect(t, "together", all, want, len(all), frame.Whole)
	}
	many := make([][]byte, 20000)
	expect(t, "empty frames", make([]byte, 5*len(many)), many, 5*len(many), frame.Whole)
}

func TestContentsMayLookLikeFrames(t *testing.T) {
	inner := join(put(t, []byte("inner")), put(t, nil))
	f := put(t, inner)
	expect(t, "a frame of frames", join(f, f), [][]byte{inner, inner}, 2*len(f), frame.Whole)
}

// rests returns bytes that follow frames, and the state that they have there.
func rests(t *testing.T) []struct {
	name string
	b    []byte
	rest int
} {
	nine := strings.Repeat("\xff", 9)
	f := put(t, []byte("123456789"))
	wrong := bytes.Clone(f)
	wrong[3] ^= 1
	sum := bytes.Clone(f)
	sum[len(sum)-1] ^= 0x80
	great := build(filled(most + 1))
	torn, bad := frame.Torn, frame.Bad
	return []struct {
		name string
		b    []byte
		rest int
	}{
		{"nothing", nil, frame.Whole},

		{"a length without its second byte", []byte("\x80"), torn},
		{"a length without its third byte", []byte("\xc0\x84"), torn},
		{"nine bytes of a length that will be too great", []byte(nine), torn},

		{"a length alone", []byte("\x09"), torn},
		{"a length 0 alone", []byte("\x00"), torn},
		{"an empty frame without its last byte", []byte("\x00\x00\x00\x00"), torn},
		{"a frame without its last byte", f[:13], torn},
		{"contents without checksum", f[:10], torn},
		{"contents that are cut off", f[:9], torn},
		{"a wrong frame that is cut off", wrong[:13], torn},
		{"the greatest length alone", []byte("\xc0\x84\x3d"), torn},
		{"the greatest length and too few bytes", append([]byte("\xc0\x84\x3d"), make([]byte, most+3)...), torn},

		{"an empty frame with a wrong checksum at the end", []byte("\x00\x00\x00\x00\x01"), torn},
		{"wrong contents at the end", wrong, torn},
		{"a wrong checksum at the end", sum, torn},
		{"a checksum in big-endian order at the end", []byte("\x09123456789\xcb\xf4\x39\x26"), torn},
		{"the greatest frame with a wrong checksum at the end", append([]byte("\xc0\x84\x3d"), make([]byte, most+4)...), torn},

		{"a length with a byte 0 behind", []byte("\x80\x00"), bad},
		{"a length with a byte 0 behind, and a frame", join([]byte("\x80\x00"), f), bad},
		{"the frame of a length that is longer than needed", append([]byte("\x89\x00"), f[1:]...), bad},
		{"a length with a tenth byte 2", []byte(nine + "\x02"), bad},
		{"a length with a tenth byte 0", []byte(nine + "\x00"), bad},
		{"a length of more than ten bytes", []byte(nine + "\xff\x01"), bad},

		{"a length of 1000001 alone", []byte("\xc1\x84\x3d"), bad},
		{"a length of 1000001 and too few bytes", []byte("\xc1\x84\x3dabc"), bad},
		{"a frame of 1000001 bytes", great, bad},
		{"a frame of 1000001 bytes, and a frame", join(great, f), bad},
		{"a frame of 1000001 bytes without its last byte", great[:len(great)-1], bad},
		{"a length of 2^21 - 1", []byte("\xff\xff\x7f"), bad},
		{"a length of 2^31 - 1", []byte("\xff\xff\xff\xff\x07"), bad},
		{"a length of 2^31", []byte("\x80\x80\x80\x80\x08"), bad},
		{"a length of 2^32", []byte("\x80\x80\x80\x80\x10\x00\x00\x00\x00"), bad},
		{"a length of 2^63 - 1", []byte("\xff\xff\xff\xff\xff\xff\xff\xff\x7f"), bad},
		{"a length of 2^63", []byte("\x80\x80\x80\x80\x80\x80\x80\x80\x80\x01\x00\x00\x00\x00"), bad},
		{"a length of 2^64 - 4", []byte("\xfc\xff\xff\xff\xff\xff\xff\xff\xff\x01\x00\x00\x00\x00"), bad},
		{"a length of 2^64 - 1", []byte(nine + "\x01\x00\x00\x00\x00"), bad},

		{"an empty frame with a wrong checksum, and a byte", []byte("\x00\x00\x00\x00\x01\x00"), bad},
		{"an empty frame with a wrong checksum, and a frame", join([]byte("\x00\x00\x00\x00\x01"), f), bad},
		{"wrong contents, and a byte", join(wrong, []byte{9}), bad},
		{"wrong contents, and a frame", join(wrong, f), bad},
		{"a wrong checksum, and a frame", join(sum, f), bad},
		{"two frames with wrong checksums", join(sum, sum), bad},
		{"the greatest frame with a wrong checksum, and a byte", append([]byte("\xc0\x84\x3d"), make([]byte, most+5)...), bad},
	}
}

func TestRests(t *testing.T) {
	b := filled(200)
	heads := [][][]byte{nil, {b}, {nil}, {b, nil, []byte("123456789")}}
	for _, want := range heads {
		var head []byte
		for _, x := range want {
			head = append(head, put(t, x)...)
		}
		for _, c := range rests(t) {
			expect(t, c.name, join(head, c.b), want, len(head), c.rest)
		}
	}
}

func TestCutOffAtEachPlace(t *testing.T) {
	var all []byte
	var want [][]byte
	ends := []int{0}
	for _, many := range []int{9, 0, 200, 1, 16390, 0, 3} {
		b := filled(many)
		all = append(all, put(t, b)...)
		want = append(want, b)
		ends = append(ends, len(all))
	}
	whole := 0
	for i := range len(all) + 1 {
		if whole+1 < len(ends) && ends[whole+1] == i {
			whole++
		}
		rest := frame.Torn
		if ends[whole] == i {
			rest = frame.Whole
		}
		l, n, r := frame.Scan(all[:i])
		if !slices.EqualFunc(l, want[:whole], bytes.Equal) || n != ends[whole] || r != rest {
			t.Fatalf("%d bytes: %d frames, length %d, state %d, want %d, %d, %d", i, len(l), n, r, whole, ends[whole], rest)
		}
	}
}

// invert inverts bits of bytes: those of mask, the lowest one being that at the offset.
func invert(b []byte, at int, mask uint32) {
	for i := range 32 {
		if mask>>i&1 == 1 {
			b[(at+i)/8] ^= 1 << ((at + i) % 8)
		}
	}
}

// inverted checks that a frame is not accepted with bits of its contents and checksum inverted, and the frames
// before and after it are treated as the chapter says.
func inverted(t *testing.T, contents []byte, at int, mask uint32) {
	t.Helper()
	before, f, after := build([]byte("before")), build(contents), build([]byte("after"))
	body := f[len(f)-len(contents)-4:]
	invert(body, at, mask)
	name := "inverted bits"
	expect(t, name, f, nil, 0, frame.Torn)
	want := [][]byte{[]byte("before")}
	expect(t, name, join(before, f), want, len(before), frame.Torn)
	expect(t, name, join(before, f, after), want, len(before), frame.Bad)
	if t.Failed() {
		t.Fatalf("contents of %d bytes, bits from %d on, mask %x", len(contents), at, mask)
	}
}

func TestInvertedBitsInEachPlace(t *testing.T) {
	r := rand.New(rand.NewSource(2))
	for _, many := range []int{0, 1, 2, 3, 4, 9, 40, 130} {
		b := filled(many)
		bits := 8 * (many + 4)
		for at := range bits {
			// Those masks that do not reach beyond the end of the checksum.
			fits := uint32(math.MaxUint32)
			if bits-at < 32 {
				fits = 1<<(bits-at) - 1
			}
			for _, mask := range []uint32{1, 3, 5, 0xff, 0x101, 0xffff, 0x80000001, math.MaxUint32, 0xedb88320, 0xdb710641, r.Uint32()} {
				if mask &= fits; mask != 0 {
					inverted(t, b, at, mask)
				}
			}
		}
	}
}

func TestInvertedBitsOfManyKinds(t *testing.T) {
	b := []byte("123456789")
	for mask := uint32(1); mask < 1<<10; mask += 2 {
		for at := 0; at+10 <= 8*(len(b)+4); at += 3 {
			inverted(t, b, at, mask)
		}
	}
	r := rand.New(rand.NewSource(3))
	for range 5000 {
		b := filled(r.Intn(50))
		inverted(t, b, r.Intn(8*len(b)+1), r.Uint32()|1)
	}
}

func TestInvertedBitsOfTheGreatestFrame(t *testing.T) {
	b := filled(most)
	for _, at := range []int{0, 1, 4 * most, 8*most - 32, 8*most - 31, 8*most - 1, 8 * most} {
		inverted(t, b, at, 0x80000001)
	}
}

// judge says what Scan must answer, by the library's means: sentence by sentence as the chapter has it.
func judge(b []byte) ([][]byte, int, int) {
	var l [][]byte
	at := 0
	for {
		left := b[at:]
		if len(left) == 0 {
			return l, at, frame.Whole
		}
		size, many := binary.Uvarint(left)
		if many == 0 && len(left) < 10 {
			return l, at, frame.Torn
		}
		if many <= 0 || many > 1 && left[many-1] == 0 || size > most {
			return l, at, frame.Bad
		}
		end := many + int(size) + 4
		if end > len(left) {
			return l, at, frame.Torn
		}
		contents := left[many : end-4]
		if !bytes.Equal(build(contents), left[:end]) {
			if end == len(left) {
				return l, at, frame.Torn
			}
			return l, at, frame.Bad
		}
		l = append(l, contents)
		at += end
	}
}

// mixed returns frames and what is not quite frames, in an order that r chooses.
func mixed(r *rand.Rand) []byte {
	var b []byte
	for range r.Intn(6) {
		part := build(filled(r.Intn(4) * r.Intn(60)))
		switch r.Intn(12) {
		case 0:
			part[r.Intn(len(part))] ^= 1 << r.Intn(8)
		case 1:
			part = part[:r.Intn(len(part))]
		case 2:
			part = []byte{byte(128 + r.Intn(128)), byte(r.Intn(3))}
		case 3:
			part = binary.AppendUvarint(nil, uint64(most-2+r.Intn(5)))
		case 4:
			part = binary.AppendUvarint(nil, r.Uint64())
		case 5:
			part = bytes.Repeat([]byte{255}, r.Intn(12))
		}
		b = append(b, part...)
	}
	return b
}

func TestScanAgreesWithJudge(t *testing.T) {
	r := rand.New(rand.NewSource(4))
	seen := map[int]int{}
	for range 30000 {
		b := mixed(r)
		l, n, rest := frame.Scan(b)
		wantL, wantN, wantRest := judge(b)
		if !slices.EqualFunc(l, wantL, bytes.Equal) || n != wantN || rest != wantRest {
			t.Fatalf("Scan(%v) = %v, %d, %d, want %v, %d, %d", b, l, n, rest, wantL, wantN, wantRest)
		}
		var again []byte
		for _, x := range l {
			again = append(again, put(t, x)...)
		}
		if !bytes.Equal(again, b[:n]) {
			t.Fatalf("Scan(%v): the frames of the contents are %v", b, again)
		}
		seen[rest]++
	}
	if seen[frame.Whole] < 1000 || seen[frame.Torn] < 1000 || seen[frame.Bad] < 1000 {
		t.Error("too few inputs of a kind:", seen)
	}
}

func TestNothingIsSharedOrChanged(t *testing.T) {
	b := []byte("abcdefgh")
	f, g := put(t, b[:3]), put(t, b[:3])
	frame.Check(b)
	if string(b) != "abcdefgh" {
		t.Error("the argument became", string(b))
	}
	clear(b)
	if string(f[1:4]) != "abc" {
		t.Error("a frame changed with the argument:", f)
	}
	f[1] = 'x'
	if string(g[1:4]) != "abc" {
		t.Error("a frame changed with another one:", g)
	}

	all := join(g, g, put(t, nil), g)
	was := string(all)
	l, _, _ := frame.Scan(all)
	for i := range l {
		l[i] = append(l[i], "more than there was"...)
		l[i][0] = 'x'
	}
	if string(all) != was {
		t.Error("the argument became", all)
	}
	for i, want := range []string{"xbcmore", "xbcmore", "xore", "xbcmore"} {
		if !strings.HasPrefix(string(l[i]), want) {
			t.Errorf("contents %d changed with others: %s", i, l[i])
		}
	}
	l, _, _ = frame.Scan(all)
	clear(all)
	if string(l[0]) != "abc" || string(l[3]) != "abc" {
		t.Error("the contents changed with the argument:", l)
	}
}

func TestBytesBehindTheLengthAreNotRead(t *testing.T) {
	f := join(build([]byte("abc")), build([]byte("defg")))
	expect(t, "a shorter slice", f[:len(f)-1], [][]byte{[]byte("abc")}, 8, frame.Torn)
	expect(t, "a shorter slice", f[:8], [][]byte{[]byte("abc")}, 8, frame.Whole)
	expect(t, "an empty slice", f[:0], nil, 0, frame.Whole)
	if sum := frame.Check(f[:0]); sum != 0 {
		t.Error(sum)
	}
}

func TestCallsAtTheSameTime(t *testing.T) {
	b := filled(1000)
	f := build(b)
	var all sync.WaitGroup
	for range 8 {
		all.Go(func() {
			for range 50 {
				g, _ := frame.Put(b)
				l, n, rest := frame.Scan(f)
				if !bytes.Equal(g, f) || len(l) != 1 || !bytes.Equal(l[0], b) || n != len(f) || rest != frame.Whole {
					t.Error("an answer differs")
					return
				}
			}
		})
	}
	all.Wait()
}

func TestImportsOnlyApiAndVarint(t *testing.T) {
	f, err := parser.ParseFile(token.NewFileSet(), "frame.go", nil, parser.ImportsOnly)
	if err != nil {
		t.Fatal(err)
	}
	for _, i := range f.Imports {
		if i.Path.Value != `"tugger/api"` && i.Path.Value != `"tugger/varint"` {
			t.Error("frame imports", i.Path.Value)
		}
	}
}

func BenchmarkCheckOfFewBytes(b *testing.B) {
	few := filled(20)
	for b.Loop() {
		frame.Check(few)
	}
}
