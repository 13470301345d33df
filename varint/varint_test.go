package varint_test

import (
	"bytes"
	"encoding/binary"
	"go/parser"
	"go/token"
	"math"
	"math/rand"
	"slices"
	"strings"
	"sync"
	"testing"

	"tugger/api"
	"tugger/varint"
)

// nines is the first nine bytes of an encoding of ten.
const nines = "\xff\xff\xff\xff\xff\xff\xff\xff\xff"

// edges returns the numbers around each power of 2, which include those around each length of an encoding.
func edges() []uint64 {
	l := []uint64{0, math.MaxUint64}
	for i := range 64 {
		p := uint64(1) << i
		l = append(l, p-1, p, p+1)
	}
	return l
}

// samples returns the edges and numbers of all lengths, the same ones each time.
func samples() []uint64 {
	l := edges()
	r := rand.New(rand.NewSource(1))
	for i := range 2000 {
		l = append(l, r.Uint64()>>(i%64))
	}
	return l
}

func TestPutEncodes(t *testing.T) {
	for _, c := range []struct {
		l    []uint64
		want string
	}{
		{nil, ""},
		{[]uint64{}, ""},
		{[]uint64{0}, "\x00"},
		{[]uint64{1}, "\x01"},
		{[]uint64{127}, "\x7f"},
		{[]uint64{128}, "\x80\x01"},
		{[]uint64{255}, "\xff\x01"},
		{[]uint64{300}, "\xac\x02"},
		{[]uint64{16383}, "\xff\x7f"},
		{[]uint64{16384}, "\x80\x80\x01"},
		{[]uint64{1<<63 - 1}, "\xff\xff\xff\xff\xff\xff\xff\xff\x7f"},
		{[]uint64{1 << 63}, "\x80\x80\x80\x80\x80\x80\x80\x80\x80\x01"},
		{[]uint64{math.MaxUint64}, nines + "\x01"},
		{[]uint64{0, 0}, "\x00\x00"},
		{[]uint64{300, 0, math.MaxUint64, 127, 128}, "\xac\x02\x00" + nines + "\x01\x7f\x80\x01"},
	} {
		if b := varint.Put(c.l...); string(b) != c.want {
			t.Errorf("Put(%v) = %v, want %v", c.l, b, []byte(c.want))
		}
	}
}

func TestPutAgreesWithUvarint(t *testing.T) {
	var all []byte
	for _, n := range samples() {
		want := binary.AppendUvarint(nil, n)
		if b := varint.Put(n); !bytes.Equal(b, want) {
			t.Errorf("Put(%d) = %v, want %v", n, b, want)
		}
		all = append(all, want...)
	}
	if b := varint.Put(samples()...); !bytes.Equal(b, all) {
		t.Error("Put of several numbers is not the concatenation of their encodings")
	}
}

func TestTakeReadsAtOffset(t *testing.T) {
	for _, c := range []struct {
		b    string
		at   int
		n    uint64
		next int
	}{
		{"\x00", 0, 0, 1},
		{"\x00\x00", 1, 0, 2},
		{"\x7f", 0, 127, 1},
		{"\x80\x01", 0, 128, 2},
		{"\x80\x01", 1, 1, 2},
		{"\xac\x02", 0, 300, 2},
		{"\xac\x02\x00\xff", 0, 300, 2},
		{"\x80\xac\x02", 1, 300, 3},
		{nines + "\x01", 0, math.MaxUint64, 10},
		{nines + "\x01\xff\x00", 0, math.MaxUint64, 10},
		{nines + "\x01", 1, math.MaxUint64 >> 7, 10},
		{"\x80\x80\x80\x80\x80\x80\x80\x80\x80\x01", 0, 1 << 63, 10},
		{"\x80\x80\x80\x80\x80\x80\x80\x80\x7f", 0, 127 << 56, 9},
	} {
		n, next, e := varint.Take([]byte(c.b), c.at)
		if n != c.n || next != c.next || e != api.OK {
			t.Errorf("Take(%q, %d) = %d, %d, %d, want %d, %d, 0", c.b, c.at, n, next, e, c.n, c.next)
		}
	}
}

func TestTakeRefuses(t *testing.T) {
	for _, c := range []struct {
		b  string
		at int
		e  api.Errno
	}{
		{"", -1, api.ErrArg},
		{"", 1, api.ErrArg},
		{"a", -1, api.ErrArg},
		{"a", 2, api.ErrArg},
		{"\x80\x00", -1, api.ErrArg},
		{"a", math.MinInt, api.ErrArg},
		{"a", math.MaxInt, api.ErrArg},
		{"", 0, api.ErrShort},
		{"a", 1, api.ErrShort},
		{"\x80", 0, api.ErrShort},
		{"\xff\x80", 0, api.ErrShort},
		{"\x00\x80", 1, api.ErrShort},
		{nines, 0, api.ErrShort},
		{"\x80\x00", 0, api.ErrForm},
		{"\xff\x00", 0, api.ErrForm},
		{"\x80\x00\x01", 0, api.ErrForm},
		{"\x80\x80\x00", 0, api.ErrForm},
		{nines + "\x00", 0, api.ErrForm},
		{nines + "\x02", 0, api.ErrForm},
		{nines + "\x7f", 0, api.ErrForm},
		{nines + "\x80", 0, api.ErrForm},
		{nines + "\x81", 0, api.ErrForm},
		{nines + "\xff", 0, api.ErrForm},
		{nines + "\x80\x01", 0, api.ErrForm},
		{"\x01" + nines + "\x02", 1, api.ErrForm},
	} {
		n, next, e := varint.Take([]byte(c.b), c.at)
		if n != 0 || next != 0 || e != c.e {
			t.Errorf("Take(%q, %d) = %d, %d, %d, want 0, 0, %d", c.b, c.at, n, next, e, c.e)
		}
	}
}

func TestZigAndZag(t *testing.T) {
	for _, c := range []struct {
		n int64
		z uint64
	}{
		{0, 0}, {-1, 1}, {1, 2}, {-2, 3}, {2, 4}, {-3, 5}, {3, 6},
		{math.MaxInt32, math.MaxUint32 - 1}, {math.MinInt32, math.MaxUint32},
		{math.MaxInt64 - 1, math.MaxUint64 - 3}, {math.MinInt64 + 1, math.MaxUint64 - 2},
		{math.MaxInt64, math.MaxUint64 - 1}, {math.MinInt64, math.MaxUint64},
	} {
		if z := varint.Zig(c.n); z != c.z {
			t.Errorf("Zig(%d) = %d, want %d", c.n, z, c.z)
		}
		if n := varint.Zag(c.z); n != c.n {
			t.Errorf("Zag(%d) = %d, want %d", c.z, n, c.n)
		}
	}
	for _, n := range samples() {
		if z := varint.Zig(varint.Zag(n)); z != n {
			t.Errorf("Zig(Zag(%d)) = %d", n, z)
		}
		if z := varint.Zag(varint.Zig(int64(n))); z != int64(n) {
			t.Errorf("Zag(Zig(%d)) = %d", int64(n), z)
		}
	}
}

func TestManyTakesNumbers(t *testing.T) {
	b := varint.Put(1, 2, 300, 1<<31-1, 1<<31)
	for _, c := range []struct {
		at, many int
		most     uint64
		want     []int
		next     int
	}{
		{0, 0, 0, nil, 0},
		{2, 0, 9, nil, 2},
		{len(b), 0, 9, nil, len(b)},
		{0, 1, 1, []int{1}, 1},
		{0, 3, 300, []int{1, 2, 300}, 4},
		{1, 2, 300, []int{2, 300}, 4},
		{0, 4, 1<<31 - 1, []int{1, 2, 300, 1<<31 - 1}, 9},
		{0, 4, math.MaxUint64, []int{1, 2, 300, 1<<31 - 1}, 9},
	} {
		l, next, e := varint.Many(b, c.at, c.many, c.most)
		if !slices.Equal(l, c.want) || next != c.next || e != api.OK {
			t.Errorf("Many(b, %d, %d, %d) = %v, %d, %d, want %v, %d, 0", c.at, c.many, c.most, l, next, e, c.want, c.next)
		}
	}
}

func TestManyTakesAtMost100000(t *testing.T) {
	b := bytes.Repeat([]byte{7}, 100001)
	l, next, e := varint.Many(b, 0, 100000, 7)
	if len(l) != 100000 || l[99999] != 7 || next != 100000 || e != api.OK {
		t.Error(len(l), next, e)
	}
	if l, next, e := varint.Many(b, 0, 100001, 7); len(l) != 0 || next != 0 || e != api.ErrArg {
		t.Error(len(l), next, e)
	}
}

func TestManyRefuses(t *testing.T) {
	for _, c := range []struct {
		b        string
		at, many int
		most     uint64
		e        api.Errno
	}{
		{"a", -1, 1, 200, api.ErrArg},
		{"a", 2, 1, 200, api.ErrArg},
		{"a", -1, 0, 200, api.ErrArg},
		{"a", 2, 0, 200, api.ErrArg},
		{"a", math.MaxInt, 1, 200, api.ErrArg},
		{"a", 0, -1, 200, api.ErrArg},
		{"a", 0, math.MinInt, 200, api.ErrArg},
		{"a", 0, 100001, 200, api.ErrArg},
		{"a", 0, math.MaxInt, 200, api.ErrArg},
		{"\x80\x00", 0, 100001, 0, api.ErrArg},
		{"", 0, 1, 200, api.ErrShort},
		{"a", 1, 1, 200, api.ErrShort},
		{"ab", 0, 3, 200, api.ErrShort},
		{"ab\x80", 0, 3, 200, api.ErrShort},
		{"ab", 0, 100000, 200, api.ErrShort},
		{"\x01\x80\x00", 0, 2, 200, api.ErrForm},
		{nines + "\x02", 0, 1, math.MaxUint64, api.ErrForm},
		{"\x01", 0, 1, 0, api.ErrMany},
		{"\xac\x02", 0, 1, 299, api.ErrMany},
		{"\x80\x80\x80\x80\x08", 0, 1, math.MaxUint64, api.ErrMany},
		{nines + "\x01", 0, 1, math.MaxUint64, api.ErrMany},
		{"\x01\x09\x80\x00", 0, 3, 8, api.ErrMany},
		{"\x01\x09", 0, 3, 8, api.ErrMany},
		{"\x01\x80\x00\x09", 0, 3, 8, api.ErrForm},
	} {
		l, next, e := varint.Many([]byte(c.b), c.at, c.many, c.most)
		if len(l) != 0 || next != 0 || e != c.e {
			t.Errorf("Many(%q, %d, %d, %d) = %v, %d, %d, want [], 0, %d", c.b, c.at, c.many, c.most, l, next, e, c.e)
		}
	}
}

func TestBytesAndText(t *testing.T) {
	for _, c := range []struct{ s, head string }{
		{"", "\x00"},
		{"a", "\x01"},
		{"\x00\xff\x80", "\x03"},
		{"grün", "\x05"},
		{strings.Repeat("x", 127), "\x7f"},
		{strings.Repeat("x", 128), "\x80\x01"},
		{strings.Repeat("xyz", 100), "\xac\x02"},
	} {
		b := varint.Bytes(c.s)
		if string(b) != c.head+c.s {
			t.Errorf("Bytes(%q) = %q", c.s, b)
		}
		for _, tail := range []string{"", "\x80"} {
			whole := "ab" + string(b) + tail
			s, next, e := varint.Text([]byte(whole), 2)
			if s != c.s || next != 2+len(b) || e != api.OK {
				t.Errorf("Text(%q, 2) = %q, %d, %d", whole, s, next, e)
			}
		}
	}
}

func TestTextRefuses(t *testing.T) {
	for _, c := range []struct {
		b  string
		at int
		e  api.Errno
	}{
		{"\x00", -1, api.ErrArg},
		{"\x00", 2, api.ErrArg},
		{"", 0, api.ErrShort},
		{"\x00", 1, api.ErrShort},
		{"\x80", 0, api.ErrShort},
		{"\x80\x00", 0, api.ErrForm},
		{nines + "\x02", 0, api.ErrForm},
		{"\x01", 0, api.ErrShort},
		{"\x02a", 0, api.ErrShort},
		{"abc\x02a", 3, api.ErrShort},
		{"\x80\x80\x80\x80\x10abc", 0, api.ErrShort},
		{"\xff\xff\xff\xff\xff\xff\xff\xff\x7fabc", 0, api.ErrShort},
		{"\x80\x80\x80\x80\x80\x80\x80\x80\x80\x01abc", 0, api.ErrShort},
		{nines + "\x01abc", 0, api.ErrShort},
	} {
		s, next, e := varint.Text([]byte(c.b), c.at)
		if s != "" || next != 0 || e != c.e {
			t.Errorf("Text(%q, %d) = %q, %d, %d, want \"\", 0, %d", c.b, c.at, s, next, e, c.e)
		}
	}
}

func TestTakeReturnsWhatWasPut(t *testing.T) {
	want := samples()
	b := varint.Put(want...)
	at := 0
	for i, n := range want {
		got, next, e := varint.Take(b, at)
		if got != n || e != api.OK {
			t.Fatalf("number %d at %d: %d, %d, want %d", i, at, got, e, n)
		}
		if alone, end, e := varint.Take(varint.Put(n), 0); alone != n || end != next-at || e != api.OK {
			t.Fatalf("number %d alone: %d, %d, %d", i, alone, end, e)
		}
		at = next
	}
	if at != len(b) {
		t.Errorf("%d of %d bytes taken", at, len(b))
	}
}

func TestPrefixOfEncodingIsShort(t *testing.T) {
	for _, n := range edges() {
		b := varint.Put(n)
		for i := range b {
			if _, _, e := varint.Take(b[:i], 0); e != api.ErrShort {
				t.Errorf("%d bytes of %v: %d, want ErrShort", i, b, e)
			}
		}
	}
}

// judge says what Take must answer from offset 0 on. It asks the library, which also accepts encodings
// that are longer than needed, and encodes again what the library has decoded.
func judge(b []byte) (uint64, int, api.Errno) {
	for i := 1; i <= len(b) && i <= 10; i++ {
		n, size := binary.Uvarint(b[:i])
		if size == i {
			if bytes.Equal(binary.AppendUvarint(nil, n), b[:i]) {
				return n, i, api.OK
			}
			return 0, 0, api.ErrForm
		}
		if i == 10 {
			return 0, 0, api.ErrForm
		}
	}
	return 0, 0, api.ErrShort
}

func TestOnlyEncodingsAreDecoded(t *testing.T) {
	check := func(b []byte) {
		n, next, e := varint.Take(b, 0)
		wantN, wantNext, wantE := judge(b)
		if n != wantN || next != wantNext || e != wantE {
			t.Errorf("Take(%v, 0) = %d, %d, %d, want %d, %d, %d", b, n, next, e, wantN, wantNext, wantE)
		}
		if e == api.OK && !bytes.Equal(varint.Put(n), b[:next]) {
			t.Errorf("%v is decoded to %d, whose encoding is %v", b[:next], n, varint.Put(n))
		}
	}
	for i := range 1 << 16 {
		check([]byte{byte(i), byte(i >> 8)})
	}
	letters := []byte{0, 1, 2, 127, 128, 129, 255}
	heads := []string{"", "\x80", "\x80\x80\x80", "\x80\x80\x80\x80\x80\x80\x80", "\xff\xff\xff\xff\xff\xff\xff", "\xff\xff\xff\xff\xff\xff\xff\xff", nines}
	for _, h := range heads {
		tails := [][]byte{nil}
		for range 4 {
			var longer [][]byte
			for _, tail := range tails {
				check(append([]byte(h), tail...))
				for _, c := range letters {
					longer = append(longer, append(slices.Clone(tail), c))
				}
			}
			tails = longer
		}
	}
}

func TestNothingIsSharedOrChanged(t *testing.T) {
	l := []uint64{5, 300}
	p, q := varint.Put(l...), varint.Put(l...)
	p[0] = 9
	if l[0] != 5 || l[1] != 300 || q[0] != 5 {
		t.Error("Put", l, q)
	}

	b := []byte("\x05\x02ab\x07")
	was := string(b)
	m, _, _ := varint.Many(b, 0, 5, 200)
	s, _, _ := varint.Text(b, 1)
	varint.Take(b, 0)
	m = append(m, 1)
	m[0] = 9
	if string(b) != was {
		t.Error("the argument became", b)
	}
	clear(b)
	if s != "ab" || m[1] != 2 || m[2] != 'a' {
		t.Error("a result changed with the argument:", s, m)
	}
}

func TestBytesBehindTheLengthAreNotRead(t *testing.T) {
	b := []byte("\x80\x01")[:1]
	if _, _, e := varint.Take(b, 0); e != api.ErrShort {
		t.Error(e)
	}
	c := []byte("\x02ab")[:2]
	if _, _, e := varint.Text(c, 0); e != api.ErrShort {
		t.Error(e)
	}
}

func TestCallsAtTheSameTime(t *testing.T) {
	want := samples()
	b := varint.Put(want...)
	var all sync.WaitGroup
	for range 8 {
		all.Go(func() {
			at := 0
			for _, n := range want {
				got, next, e := varint.Take(b, at)
				if got != n || e != api.OK {
					t.Errorf("%d, %d, want %d", got, e, n)
					return
				}
				at = next
			}
		})
	}
	all.Wait()
}

func TestImportsOnlyApi(t *testing.T) {
	f, err := parser.ParseFile(token.NewFileSet(), "varint.go", nil, parser.ImportsOnly)
	if err != nil {
		t.Fatal(err)
	}
	for _, i := range f.Imports {
		if i.Path.Value != `"tugger/api"` {
			t.Error("varint imports", i.Path.Value)
		}
	}
}
