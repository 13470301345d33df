package segment_test

import (
	"bytes"
	"encoding/binary"
	"fmt"
	"go/parser"
	"go/token"
	"hash/crc32"
	"math"
	"math/rand"
	"reflect"
	"regexp"
	"slices"
	"strconv"
	"strings"
	"sync"
	"testing"

	"tugger/api"
	"tugger/codec"
	"tugger/frame"
	"tugger/segment"
)

const (
	mostTick   = 1<<31 - 1
	mostFramed = 1000000
	mostListed = 100000
)

// put returns the encodings of numbers by the library's means.
func put(l ...uint64) []byte {
	var b []byte
	for _, n := range l {
		b = binary.AppendUvarint(b, n)
	}
	return b
}

// framed returns the frame of bytes by the library's means, of as many as there are.
func framed(b []byte) []byte {
	f := append(put(uint64(len(b))), b...)
	return binary.LittleEndian.AppendUint32(f, crc32.ChecksumIEEE(b))
}

// head returns the frame of a head with some numbers behind its 7.
func head(l ...uint64) []byte { return framed(put(append([]uint64{7}, l...)...)) }

// contents returns the encoding of a record, which must be possible.
func contents(t testing.TB, x api.Record) []byte {
	t.Helper()
	b, e := codec.Record(x)
	if e != api.OK {
		t.Fatalf("the record %v cannot be encoded", x)
	}
	return b
}

// record returns the frame of a record.
func record(t testing.TB, x api.Record) []byte {
	t.Helper()
	return framed(contents(t, x))
}

// join returns copies of bytes, one after the other.
func join(l ...[]byte) []byte { return bytes.Join(l, nil) }

// turned returns a copy of bytes with one bit inverted.
func turned(b []byte, at int) []byte {
	c := bytes.Clone(b)
	c[at/8] ^= 1 << (at % 8)
	return c
}

// brief says what a value is in a few words.
func brief(v any) string {
	s := fmt.Sprintf("%v", v)
	if len(s) > 200 {
		return s[:200] + ".."
	}
	return s
}

// clean returns a copy of a record whose empty slices are nil.
func clean(x api.Record) api.Record {
	x.Inputs = append([]api.Input(nil), x.Inputs...)
	x.Codes = append([]api.Errno(nil), x.Codes...)
	x.Ways = append([]int(nil), x.Ways...)
	return x
}

func sameRecord(a, b api.Record) bool { return reflect.DeepEqual(clean(a), clean(b)) }

// segmentation is what Parse answers.
type segmentation struct {
	first   int
	records []api.Record
	size    int
	rest    int
	e       api.Errno
}

func parse(b []byte) segmentation {
	var s segmentation
	s.first, s.records, s.size, s.rest, s.e = segment.Parse(b)
	return s
}

func (s segmentation) same(o segmentation) bool {
	return s.first == o.first && slices.EqualFunc(s.records, o.records, sameRecord) && s.size == o.size && s.rest == o.rest && s.e == o.e
}

// expectParse reports what Parse answers other than wanted, and a change of its argument.
func expectParse(t testing.TB, name string, b []byte, want segmentation) {
	t.Helper()
	was := bytes.Clone(b)
	if s := parse(b); !s.same(want) {
		t.Errorf("%s: Parse(%s) = %s, want %s", name, brief(b), brief(s), brief(want))
	}
	if !bytes.Equal(b, was) {
		t.Errorf("%s: the argument became %s", name, brief(b))
	}
}

// refuseParse reports what Parse answers other than an error and nothing else.
func refuseParse(t testing.TB, name string, b []byte, e api.Errno) {
	t.Helper()
	expectParse(t, name, b, segmentation{e: e})
}

// plain are ticks of all lengths.
func plain() []int {
	l := []int{0, 1, 7, 300, mostTick - 1, mostTick}
	for n := 10; n < mostTick; n *= 10 {
		l = append(l, n-1, n, n+1)
	}
	for n := 1; n < mostTick; n *= 2 {
		l = append(l, n-1, n, n+1)
	}
	return l
}

// beyond are numbers that are no ticks.
func beyond() []int {
	return []int{-1, -2, -9, -10, -mostTick, -mostTick - 1, mostTick + 1, mostTick + 2, 1<<32 - 1, 1 << 32, 1<<32 + 1,
		9999999999, 10000000000, 99999999999, math.MinInt, math.MinInt + 1, math.MaxInt - 1, math.MaxInt}
}

func TestNames(t *testing.T) {
	for tick, digits := range map[int]string{
		0: "0000000000", 1: "0000000001", 7: "0000000007", 9: "0000000009", 10: "0000000010", 123456: "0000123456",
		999999999: "0999999999", 1000000000: "1000000000", 1234567890: "1234567890", mostTick - 1: "2147483646", mostTick: "2147483647",
	} {
		if s := segment.Seg(tick); s != "seg-"+digits {
			t.Errorf("Seg(%d) = %q", tick, s)
		}
		if s := segment.Snap(tick); s != "snap-"+digits {
			t.Errorf("Snap(%d) = %q", tick, s)
		}
	}
	for _, tick := range plain() {
		if s, want := segment.Seg(tick), fmt.Sprintf("seg-%010d", tick); s != want {
			t.Errorf("Seg(%d) = %q, want %q", tick, s, want)
		}
		if s, want := segment.Snap(tick), fmt.Sprintf("snap-%010d", tick); s != want {
			t.Errorf("Snap(%d) = %q, want %q", tick, s, want)
		}
	}
}

// expectTick reports what Tick answers other than wanted.
func expectTick(t testing.TB, name string, kind, tick int) {
	t.Helper()
	if k, n := segment.Tick(name); k != kind || n != tick {
		t.Errorf("Tick(%q) = %d, %d, want %d, %d", name, k, n, kind, tick)
	}
}

func TestTicksOfNames(t *testing.T) {
	for digits, tick := range map[string]int{
		"0000000000": 0, "0000000001": 1, "0000000007": 7, "0000000010": 10, "0999999999": 999999999, "1000000000": 1000000000,
		"2000000000": 2000000000, "2147483639": mostTick - 8, "2147483646": mostTick - 1, "2147483647": mostTick,
	} {
		expectTick(t, "seg-"+digits, 1, tick)
		expectTick(t, "snap-"+digits, 2, tick)
	}
}

func TestTicksThatAreTooGreat(t *testing.T) {
	for _, digits := range []string{"2147483648", "2147483649", "2147483650", "2147483657", "2147483747", "2147484647", "2150000000", "2200000000",
		"3000000000", "4294967295", "4294967296", "4294967297", "9000000000", "9999999998", "9999999999"} {
		expectTick(t, "seg-"+digits, 0, 0)
		expectTick(t, "snap-"+digits, 0, 0)
	}
}

// oddTicks are what stands where the ten digits should.
func oddTicks() []string {
	l := []string{
		"", "0", "1", "7", "000000007", "00000000007", "000000000007", "0000000000000000000000000007", "2147483647 ",
		"123456789", "12345678901", "02147483647", "214748364", "21474836470", "00000000000000000000", "18446744073709551616",
		"+000000007", "-000000007", "-000000000", "+000000000", "+0000000007", "-0000000007", "+7", "-7", "--00000007", "00000-0007",
		" 000000007", "000000007 ", " 0000000007", "0000000007 ", "00000 0007", "\t000000007", "000000007\n", "0000000007\n", "          ",
		"000000000a", "000000000A", "a000000000", "0x00000007", "0X00000007", "0o00000007", "0b00000001", "000000001f", "7e00000000", "00000000e1",
		"0000_00007", "0_00000007", "_000000007", "1_000_0000", "0,00000007", "000000.007", "0000000.07", "000000000.", "000000007.",
		"000000007\x00", "\x00000000007", "0000000007\x00", "00000\x000007", "000000007\xff", "\xff000000007", "00000\x800007", "00000\xc30007",
		"00000000é", "é00000000", "0000000\u0664", "0000000\u096d", "000000\uff17\x30", "\uff10\uff10\uff10\x37", "٠٠٠٠٠", "０００００００００７", "٠٠٠٠٠٠٠٠٠٧",
		"000000000/", "000000000:", "/000000000", ":000000000", "Infinity  ", "NaN", "0000000007.tmp", "0000000007x", "0000000007~",
		"0000000007-", "0000000007/", "0000000007seg-0000000007", "0000000007\x80",
	}
	return append(l, strings.Repeat("0", 1000), strings.Repeat("9", 1000), strings.Repeat("0", 1<<16)+"7")
}

func TestTicksThatAreNotTenDigits(t *testing.T) {
	for _, odd := range oddTicks() {
		expectTick(t, "seg-"+odd, 0, 0)
		expectTick(t, "snap-"+odd, 0, 0)
	}
}

func TestOtherPrefixes(t *testing.T) {
	for _, prefix := range []string{
		"", "-", "s", "se", "seg", "sn", "sna", "snap", "eg-", "g-", "nap-", "ap-", "p-", "seg--", "snap--", "seg_", "snap_", "seg+", "snap+",
		"seg ", "snap ", "seg -", " seg-", " snap-", "seg- ", "snap- ", "\x00seg-", "seg\x00-", "Seg-", "sEg-", "seG-", "SEG-", "Snap-", "SNAP-", "snaP-",
		"sag-", "seh-", "segs-", "segm-", "segment-", "snaps-", "snapshot-", "snip-", "tag-", "new-", "cut-", "manifest-", "manifest", "xseg-",
		"xsnap-", "seg-seg-", "snap-snap-", "seg-snap-", "snap-seg-", "segsnap-", "./seg-", "/snap-", "seg\u2010", "seg\xad", "ſeg-", "ｓeg-", "0", "seg-0", "snap-0",
	} {
		for _, digits := range []string{"0000000000", "0000000007", "2147483647"} {
			expectTick(t, prefix+digits, 0, 0)
		}
	}
	for _, name := range []string{"", "-", "seg", "seg-", "snap", "snap-", "manifest", "new", "cut", "7", "0000000007", "\xff", "0000000007seg-", "0000000007-seg", "seg-snap-",
		"seg-0000000007snap-0000000007", strings.Repeat("seg-", 1000), strings.Repeat("\xff", 14), strings.Repeat("\x00", 14)} {
		expectTick(t, name, 0, 0)
	}
}

// judgeName says what Tick must answer, by the library's means.
func judgeName(form *regexp.Regexp, name string) (int, int) {
	l := form.FindStringSubmatch(name)
	if l == nil {
		return 0, 0
	}
	tick, err := strconv.Atoi(strings.TrimLeft(l[2], "0"))
	if err != nil {
		tick = 0
	}
	if tick > mostTick {
		return 0, 0
	}
	return map[string]int{"seg": 1, "snap": 2}[l[1]], tick
}

func TestNamesThatAreNearlyRight(t *testing.T) {
	form := regexp.MustCompile(`\A(seg|snap)-([0-9]{10})\z`)
	try := func(name string) bool {
		kind, tick := judgeName(form, name)
		expectTick(t, name, kind, tick)
		return kind > 0
	}
	accepted, refused := 0, 0
	for _, tick := range []int{0, 7, 300, 1234567890, mostTick} {
		for _, name := range []string{segment.Seg(tick), segment.Snap(tick)} {
			for at := range len(name) + 1 {
				for c := range 256 {
					for _, other := range []string{name[:at] + string([]byte{byte(c)}) + name[min(at+1, len(name)):], name[:at] + string([]byte{byte(c)}) + name[at:]} {
						if try(other) {
							accepted++
						} else {
							refused++
						}
					}
				}
				try(name[:at])
				try(name[at:])
				if at < len(name) {
					try(name[:at] + name[at+1:])
				}
			}
		}
	}
	if accepted < 500 || refused < 50000 {
		t.Error("too few names of a kind:", accepted, refused)
	}
}

func TestNamesAndTicksTurnIntoEachOther(t *testing.T) {
	r := rand.New(rand.NewSource(1))
	l := plain()
	for range 20000 {
		l = append(l, r.Intn(mostTick+1)>>r.Intn(32))
	}
	for _, tick := range l {
		expectTick(t, segment.Seg(tick), 1, tick)
		expectTick(t, segment.Snap(tick), 2, tick)
		for kind, name := range []string{1: fmt.Sprintf("seg-%010d", tick), 2: fmt.Sprintf("snap-%010d", tick)} {
			if kind == 0 {
				continue
			}
			k, n := segment.Tick(name)
			again := segment.Seg(n)
			if k == 2 {
				again = segment.Snap(n)
			}
			if k != kind || again != name {
				t.Errorf("the name %q becomes %q", name, again)
			}
		}
	}
}

func TestNumbersThatAreNoTicks(t *testing.T) {
	for _, n := range beyond() {
		for _, name := range []string{segment.Seg(n), segment.Snap(n)} {
			expectTick(t, name, 0, 0)
		}
		// Nothing is promised of it, but that it comes back.
		segment.Head(n)
	}
}

func TestHead(t *testing.T) {
	for tick, want := range map[int]string{
		0:            "\x02\x07\x00",
		1:            "\x02\x07\x01",
		127:          "\x02\x07\x7f",
		128:          "\x03\x07\x80\x01",
		300:          "\x03\x07\xac\x02",
		mostTick - 1: "\x06\x07\xfe\xff\xff\xff\x07",
		mostTick:     "\x06\x07\xff\xff\xff\xff\x07",
	} {
		sum := binary.LittleEndian.AppendUint32(nil, crc32.ChecksumIEEE([]byte(want[1:])))
		if b := segment.Head(tick); string(b) != want+string(sum) {
			t.Errorf("Head(%d) = %v", tick, b)
		}
	}
	for _, tick := range plain() {
		b := segment.Head(tick)
		if !bytes.Equal(b, head(uint64(tick))) {
			t.Errorf("Head(%d) = %v, want %v", tick, b, head(uint64(tick)))
		}
		expectParse(t, "a head", b, segmentation{first: tick, size: len(b)})
	}
}

// some are records of all kinds, with ticks from one on.
func some(tick int) []api.Record {
	l := []api.Record{
		{},
		{Ways: []int{1}, Check: 0xcbf43926},
		{Inputs: []api.Input{{Kind: 1, A: 2, B: -1, C: 300}, {Kind: 5}}, Codes: []api.Errno{0, 6}, Ways: []int{0, 0, 4, 4, 3, 2}, Check: 5},
		{Inputs: []api.Input{{Kind: math.MinInt, A: math.MaxInt}}, Codes: []api.Errno{255}, Check: math.MaxUint32},
		{Ways: slices.Repeat([]int{0, 1, 2, 3, 4}, 100)},
	}
	for i := range l {
		l[i].Tick = tick + i
	}
	return l
}

// laid returns the frames of records.
func laid(t testing.TB, l []api.Record) []byte {
	t.Helper()
	var b []byte
	for _, x := range l {
		b = append(b, record(t, x)...)
	}
	return b
}

func TestParseWithoutFrames(t *testing.T) {
	whole := join(head(300), record(t, api.Record{Tick: 300}))
	refuseParse(t, "nil", nil, api.ErrShort)
	refuseParse(t, "no bytes", []byte{}, api.ErrShort)
	for i := range len(head(300)) {
		refuseParse(t, "a head that is torn", whole[:i], api.ErrShort)
	}
	for at := range 8 * len(head(300)) {
		// The bits of the length, too, whose frame is another one.
		refuseParse(t, "a head that is turned, and a record", turned(whole, at), api.ErrShort)
		refuseParse(t, "a head that is turned", turned(head(300), at), api.ErrShort)
	}
	great := framed(make([]byte, mostFramed+1))
	refuseParse(t, "a frame that is too long", great, api.ErrShort)
	refuseParse(t, "a frame that is too long, and a segment", join(great, whole), api.ErrShort)
	refuseParse(t, "a length that is longer than need be", join([]byte{0x83, 0}, head(300)[1:]), api.ErrShort)
	refuseParse(t, "a byte 255", []byte{255}, api.ErrShort)
	refuseParse(t, "many bytes 255", bytes.Repeat([]byte{255}, 100), api.ErrShort)
	refuseParse(t, "a length alone", []byte{3}, api.ErrShort)
	refuseParse(t, "the contents of a head without a frame", put(7, 300), api.ErrShort)
}

func TestFirstFrameThatIsNoHead(t *testing.T) {
	for name, b := range map[string][]byte{
		"empty":                               nil,
		"another number alone":                put(6),
		"no tick":                             put(7),
		"0 and a tick":                        put(0, 300),
		"6 and a tick":                        put(6, 300),
		"8 and a tick":                        put(8, 300),
		"a tick and 7":                        put(300, 7),
		"a tick alone":                        put(300),
		"7 + 128 and a tick":                  put(135, 300),
		"7 + 2^32 and a tick":                 put(1<<32+7, 300),
		"7 + 2^63 and a tick":                 put(1<<63+7, 300),
		"2^64 - 1 and a tick":                 put(math.MaxUint64, 300),
		"a tick without its end":              {7, 0xac},
		"a 7 without its end":                 {0x87},
		"a 7 that is longer than need be":     {0x87, 0, 0xac, 2},
		"a tick that is longer than need be":  {7, 0x80, 0},
		"a tick that is longer, and not 0":    {7, 0xac, 0x82, 0},
		"a tick of eleven bytes":              append([]byte{7}, append(bytes.Repeat([]byte{0x80}, 10), 1)...),
		"a tenth byte 2":                      append([]byte{7}, append(bytes.Repeat([]byte{0xff}, 9), 2)...),
		"a byte 0 behind the tick":            put(7, 300, 0),
		"a byte behind the tick":              put(7, 300, 1),
		"two heads":                           put(7, 300, 7, 300),
		"a byte behind that is no number":     {7, 0xac, 2, 0x80},
		"a byte 255 behind":                   {7, 1, 255},
		"a signed tick":                       put(7, 1<<64-300),
		"a tick of 2^31":                      put(7, mostTick+1),
		"a tick of 2^31 + 1":                  put(7, mostTick+2),
		"a tick of 2^32 - 1":                  put(7, 1<<32-1),
		"a tick of 2^32":                      put(7, 1<<32),
		"a tick of 2^32 + 300":                put(7, 1<<32+300),
		"a tick of 2^63 - 1":                  put(7, math.MaxInt64),
		"a tick of 2^63":                      put(7, 1<<63),
		"a tick of 2^63 + 300":                put(7, 1<<63+300),
		"a tick of 2^64 - 1":                  put(7, math.MaxUint64),
		"the text 7":                          []byte("7"),
		"the text of a name":                  []byte("seg-0000000300"),
		"a record":                            contents(t, api.Record{Tick: 300}),
		"a record of tick 7":                  contents(t, api.Record{Tick: 7}),
		"a record of tick 7 that has all":     contents(t, some(7)[0]),
		"a frame of a head":                   head(300),
		"as many bytes as a frame has":        make([]byte, mostFramed),
		"a head, and as many bytes as can be": append(put(7, 300), make([]byte, mostFramed-3)...),
	} {
		refuseParse(t, name+", alone", framed(b), api.ErrForm)
		refuseParse(t, name+", and a record", join(framed(b), record(t, api.Record{Tick: 300})), api.ErrForm)
		refuseParse(t, name+", and a head", join(framed(b), head(300)), api.ErrForm)
		refuseParse(t, name+", and a gap", join(framed(b), record(t, api.Record{Tick: 9})), api.ErrForm)
		refuseParse(t, name+", and a byte", append(framed(b), 9), api.ErrForm)
		refuseParse(t, name+", and a bad rest", append(framed(b), 0x80, 0), api.ErrForm)
	}
}

func TestHeadAlone(t *testing.T) {
	for _, tick := range []int{0, 1, 7, 127, 128, 300, mostTick - 1, mostTick} {
		b := head(uint64(tick))
		expectParse(t, "a head alone", b, segmentation{first: tick, size: len(b)})
		expectParse(t, "a head and a byte", append(b, 9), segmentation{first: tick, size: len(b), rest: frame.Torn})
	}
}

func TestHeadAndRecords(t *testing.T) {
	for _, tick := range []int{0, 1, 6, 7, 124, 127, 128, 300, 1 << 20, mostTick - 4} {
		l := some(tick)
		for many := range len(l) + 1 {
			b := join(head(uint64(tick)), laid(t, l[:many]))
			expectParse(t, "a head and records", b, segmentation{first: tick, records: l[:many], size: len(b)})
		}
	}
}

func TestLastTicks(t *testing.T) {
	one := record(t, api.Record{Tick: mostTick, Check: 9})
	b := join(head(mostTick), one)
	expectParse(t, "the last tick", b, segmentation{first: mostTick, records: []api.Record{{Tick: mostTick, Check: 9}}, size: len(b)})

	for name, next := range map[string]uint64{"2^31": mostTick + 1, "2^31 + 1": mostTick + 2, "2^32": 1 << 32, "2^63": 1 << 63, "2^64 - 1": math.MaxUint64} {
		other := framed(put(next, 0, 0, 0))
		refuseParse(t, name+" behind the last tick", join(b, other), api.ErrForm)
		refuseParse(t, name+" behind a head of the last tick", join(head(mostTick), other), api.ErrForm)
		refuseParse(t, name+" behind a head", join(head(0), other), api.ErrForm)
	}
	for _, tick := range []int{0, 1, mostTick - 1, mostTick} {
		refuseParse(t, "a tick behind the last one", join(b, record(t, api.Record{Tick: tick})), api.ErrGap)
	}
	expectParse(t, "a byte behind the last tick", append(bytes.Clone(b), 1), segmentation{first: mostTick, records: []api.Record{{Tick: mostTick, Check: 9}}, size: len(b), rest: frame.Torn})
}

// oddContents are those of frames that are no records.
func oddContents(t testing.TB, tick int) map[string][]byte {
	x := contents(t, api.Record{Tick: tick, Inputs: []api.Input{{Kind: 1}}, Codes: []api.Errno{0}, Ways: []int{1, 1, 2}, Check: 9})
	at := uint64(tick)
	return map[string][]byte{
		"empty":                        nil,
		"a byte":                       {0},
		"a head":                       put(7, at),
		"a head of the next tick":      put(7, at+1),
		"a tick alone":                 put(at),
		"a record without its end":     x[:len(x)-1],
		"a record and a byte":          append(bytes.Clone(x), 0),
		"two records":                  append(bytes.Clone(x), x...),
		"the frame of a record":        framed(x),
		"a tick of 2^31":               put(mostTick+1, 0, 0, 0),
		"a tick of 2^64 - 1":           put(math.MaxUint64, 0, 0, 0),
		"a way 5":                      put(at, 0, 1, 5, 0, 0),
		"two runs of one way":          put(at, 0, 2, 1, 0, 1, 0, 0),
		"a code of 256":                put(at, 1, 2, 0, 0, 0, 256, 0, 0),
		"a check of 2^32":              put(at, 0, 0, 1<<32),
		"a run of 100001":              put(at, 0, 1, 0, 100000, 0),
		"a run of 2^64 - 1":            put(at, 0, 1, 0, math.MaxUint64, 0),
		"2^64 - 1 inputs":              put(at, math.MaxUint64, 0, 0),
		"2^64 - 1 runs":                put(at, 0, math.MaxUint64, 0),
		"a number longer than need be": append(put(at, 0, 0), 0x80, 0),
		"a manifest":                   put(3, 0, 9, 289, 1, 5),
		"a text":                       []byte("no record"),
		"bytes 255":                    bytes.Repeat([]byte{255}, 20),
		"as many as a frame may have":  make([]byte, mostFramed),
	}
}

func TestFramesThatAreNoRecords(t *testing.T) {
	const tick = 300
	l := some(tick)
	for name, b := range oddContents(t, tick) {
		odd := framed(b)
		refuseParse(t, name+", behind the head", join(head(tick), odd), api.ErrForm)
		refuseParse(t, name+", and a byte", join(head(tick), odd, []byte{9}), api.ErrForm)
		refuseParse(t, name+", and a record", join(head(tick), odd, laid(t, l)), api.ErrForm)
	}
	for name, b := range oddContents(t, tick+len(l)) {
		refuseParse(t, name+", behind records", join(head(tick), laid(t, l), framed(b)), api.ErrForm)
		refuseParse(t, name+", among records", join(head(tick), laid(t, l), framed(b), record(t, api.Record{Tick: tick + len(l)})), api.ErrForm)
	}
}

func TestManyWays(t *testing.T) {
	x := api.Record{Tick: 3, Ways: make([]int, 100000)}
	b := join(head(3), record(t, x))
	expectParse(t, "100000 Ways", b, segmentation{first: 3, records: []api.Record{x}, size: len(b)})
	x.Ways = append(x.Ways, 0)
	refuseParse(t, "100001 Ways", join(head(3), record(t, x)), api.ErrForm)
}

func TestTicksThatDoNotFollow(t *testing.T) {
	for _, tick := range []int{0, 1, 5, 127, 128, 300, mostTick - 10} {
		l := some(tick)
		for many := range len(l) + 1 {
			b := join(head(uint64(tick)), laid(t, l[:many]))
			for _, other := range []int{0, 1, tick - 2, tick - 1, tick, tick + 1, tick + many - 2, tick + many - 1, tick + many, tick + many + 1, tick + many + 2,
				tick + many + 256, mostTick} {
				if other < 0 || other > mostTick {
					continue
				}
				x := api.Record{Tick: other, Ways: []int{2}}
				longer := join(b, record(t, x))
				if other == tick+many {
					expectParse(t, "the next tick", longer, segmentation{first: tick, records: append(slices.Clone(l[:many]), x), size: len(longer)})
					continue
				}
				refuseParse(t, "another tick", longer, api.ErrGap)
				refuseParse(t, "another tick, and what follows it", join(longer, record(t, api.Record{Tick: min(other+1, mostTick)})), api.ErrGap)
				refuseParse(t, "another tick, and the next one", join(longer, record(t, api.Record{Tick: tick + many})), api.ErrGap)
				refuseParse(t, "another tick, and a byte", append(longer, 9), api.ErrGap)
			}
		}
	}
}

func TestFirstRecordHasTheTickOfTheHead(t *testing.T) {
	for tick := range 10 {
		for first := range 10 {
			b := join(head(uint64(first)), record(t, api.Record{Tick: tick}))
			if tick == first {
				expectParse(t, "its tick", b, segmentation{first: tick, records: []api.Record{{Tick: tick}}, size: len(b)})
			} else {
				refuseParse(t, "another tick", b, api.ErrGap)
			}
		}
	}
}

func TestFirstErrorFrameByFrame(t *testing.T) {
	ok, next := record(t, api.Record{Tick: 300}), record(t, api.Record{Tick: 301})
	gap, odd := record(t, api.Record{Tick: 302}), framed([]byte("odd"))
	for _, c := range []struct {
		name string
		l    [][]byte
		e    api.Errno
	}{
		{"a form, a gap", [][]byte{odd, gap}, api.ErrForm},
		{"a gap, a form", [][]byte{gap, odd}, api.ErrGap},
		{"a record, a form, a gap", [][]byte{ok, odd, gap}, api.ErrForm},
		{"a record, a gap, a form", [][]byte{ok, gap, odd}, api.ErrGap},
		{"a record, its own tick again, a form", [][]byte{ok, ok, odd}, api.ErrGap},
		{"two records, a form", [][]byte{ok, next, odd}, api.ErrForm},
		{"two records, a form, the next one", [][]byte{ok, next, odd, gap}, api.ErrForm},
		{"two records in the wrong order, a form", [][]byte{next, ok, odd}, api.ErrGap},
		{"a form, two records", [][]byte{odd, ok, next}, api.ErrForm},
		{"a head, a gap", [][]byte{head(300), gap}, api.ErrForm},
		{"a gap, a head", [][]byte{gap, head(300)}, api.ErrGap},
		{"a frame that is no record, with a tick that does not follow", [][]byte{framed(put(500, 0))}, api.ErrForm},
		{"a record, a head, a record", [][]byte{ok, head(301), next}, api.ErrForm},
	} {
		b := join(head(300), join(c.l...))
		refuseParse(t, c.name, b, c.e)
		refuseParse(t, c.name+", a torn rest", append(bytes.Clone(b), 9), c.e)
		refuseParse(t, c.name+", a bad rest", append(bytes.Clone(b), 0x80, 0), c.e)
		refuseParse(t, c.name+", behind another head", join(framed(put(8, 300)), join(c.l...)), api.ErrForm)
		refuseParse(t, c.name+", behind no frame", join([]byte{0x80, 0}, b), api.ErrShort)
	}
}

// rests are bytes behind frames, and their states.
func rests(t testing.TB, tick int) map[string]struct {
	b    []byte
	rest int
} {
	type part = struct {
		b    []byte
		rest int
	}
	x := record(t, api.Record{Tick: tick, Ways: []int{1, 2, 3}})
	sum := turned(x, 8*len(x)-1)
	great := framed(make([]byte, mostFramed+1))
	return map[string]part{
		"nothing":                               {nil, frame.Whole},
		"a length without its end":              {[]byte{0x80}, frame.Torn},
		"a length alone":                        {[]byte{9}, frame.Torn},
		"two bytes":                             {[]byte{9, 9}, frame.Torn},
		"a record without its last byte":        {x[:len(x)-1], frame.Torn},
		"a record's first byte":                 {x[:1], frame.Torn},
		"a turned record at the end":            {sum, frame.Torn},
		"a turned record and a byte":            {append(bytes.Clone(sum), 0), frame.Bad},
		"a turned record and a record":          {join(sum, x), frame.Bad},
		"a length that is longer than need be":  {join([]byte{x[0] | 0x80, 0}, x[1:]), frame.Bad},
		"a length that is too great":            {put(mostFramed + 1), frame.Bad},
		"a length of 2^64 - 1":                  {put(math.MaxUint64), frame.Bad},
		"a frame that is too long":              {great, frame.Bad},
		"a frame that is too long, and a head":  {join(great, head(300)), frame.Bad},
		"the greatest length and too few bytes": {append(put(mostFramed), 1, 2, 3), frame.Torn},
	}
}

func TestRests(t *testing.T) {
	const tick = 300
	l := some(tick)
	for many := range len(l) + 1 {
		b := join(head(tick), laid(t, l[:many]))
		for name, c := range rests(t, tick+many) {
			expectParse(t, name, join(b, c.b), segmentation{first: tick, records: l[:many], size: len(b), rest: c.rest})
		}
	}
}

func TestPrefixesOfSegments(t *testing.T) {
	for _, tick := range []int{0, 7, 300, mostTick - 4} {
		l := some(tick)
		whole := head(uint64(tick))
		ends := []int{len(whole)}
		for _, x := range l {
			whole = append(whole, record(t, x)...)
			ends = append(ends, len(whole))
		}
		complete := -1 // how many records are, or -1 if the head is not
		for i := range len(whole) + 1 {
			if complete+1 < len(ends) && ends[complete+1] == i {
				complete++
			}
			if complete < 0 {
				refuseParse(t, "a prefix of the head", whole[:i], api.ErrShort)
				continue
			}
			want := segmentation{first: tick, records: l[:complete], size: ends[complete], rest: frame.Torn}
			if i == ends[complete] {
				want.rest = frame.Whole
			}
			expectParse(t, "a prefix", whole[:i], want)
		}
		if complete != len(l) {
			t.Fatal("not all records were looked at:", complete)
		}
	}
}

func TestTurnedBitsOfSegments(t *testing.T) {
	l := some(300)[:3]
	b, ends := head(300), []int{len(head(300))}
	for _, x := range l {
		b = append(b, record(t, x)...)
		ends = append(ends, len(b))
	}
	for at := range 8 * len(b) {
		s := parse(turned(b, at))
		complete := 0
		for complete < len(ends) && 8*ends[complete] <= at {
			complete++
		}
		if complete == 0 {
			if !s.same(segmentation{e: api.ErrShort}) {
				t.Errorf("bit %d of the head: %s", at, brief(s))
			}
			continue
		}
		want := segmentation{first: 300, records: l[:complete-1], size: ends[complete-1], rest: s.rest}
		if !s.same(want) || s.rest == frame.Whole {
			t.Errorf("bit %d: %s, want %s", at, brief(s), brief(want))
		}
	}
}

// judgeParse says what Parse must answer: sentence by sentence as the chapter has it.
func judgeParse(b []byte) segmentation {
	frames, size, rest := frame.Scan(b)
	if len(frames) == 0 {
		return segmentation{e: api.ErrShort}
	}
	_, mark := binary.Uvarint(frames[0])
	if mark <= 0 {
		return segmentation{e: api.ErrForm}
	}
	first, _ := binary.Uvarint(frames[0][mark:])
	if first > mostTick || !bytes.Equal(frames[0], put(7, first)) {
		return segmentation{e: api.ErrForm}
	}
	s := segmentation{first: int(first), size: size, rest: rest}
	for i, contents := range frames[1:] {
		x, e := codec.ReadRecord(contents)
		if e != api.OK {
			return segmentation{e: api.ErrForm}
		}
		if x.Tick != int(first)+i {
			return segmentation{e: api.ErrGap}
		}
		s.records = append(s.records, x)
	}
	return s
}

// chosenRecord returns a record that r chooses, with a tick.
func chosenRecord(r *rand.Rand, tick int) api.Record {
	x := api.Record{Tick: tick, Check: r.Uint32()}
	for range r.Intn(3) {
		x.Inputs = append(x.Inputs, api.Input{Kind: r.Intn(8), A: r.Intn(300) - 10, B: r.Intn(300), C: r.Intn(300)})
		x.Codes = append(x.Codes, api.Errno(r.Intn(12)))
	}
	for range r.Intn(20) {
		x.Ways = append(x.Ways, r.Intn(5))
	}
	return x
}

// chosenTick returns a tick that r chooses, small or great.
func chosenTick(r *rand.Rand) int { return r.Intn(mostTick+1) >> r.Intn(32) }

func TestParsingReturnsTheRecords(t *testing.T) {
	r := rand.New(rand.NewSource(2))
	for range 2000 {
		tick := min(chosenTick(r), mostTick-20)
		var l []api.Record
		for i := range r.Intn(20) {
			l = append(l, chosenRecord(r, tick+i))
		}
		b := join(segment.Head(tick), laid(t, l))
		expectParse(t, "chosen records", b, segmentation{first: tick, records: l, size: len(b)})
	}
}

// mixed returns frames of a segment, and what is not quite such frames, in an order that r chooses.
func mixed(t testing.TB, r *rand.Rand) []byte {
	tick := chosenTick(r)
	b := segment.Head(tick)
	if r.Intn(8) == 0 {
		b = framed(put(uint64(5+r.Intn(5)), r.Uint64()>>r.Intn(64)))
	}
	for i := range r.Intn(6) {
		part := record(t, chosenRecord(r, min(tick+i, mostTick)))
		switch r.Intn(16) {
		case 0:
			part[r.Intn(len(part))] ^= 1 << r.Intn(8)
		case 1:
			part = part[:r.Intn(len(part))]
		case 2:
			part = record(t, chosenRecord(r, min(tick+r.Intn(4), mostTick)))
		case 3:
			part = framed([]byte(strconv.Itoa(r.Intn(1000))))
		case 4:
			part = head(uint64(r.Intn(300)))
		}
		b = append(b, part...)
	}
	if r.Intn(12) == 0 {
		b[r.Intn(len(b))] ^= 1 << r.Intn(8)
	}
	if r.Intn(4) == 0 {
		b = b[:r.Intn(len(b)+1)]
	}
	return b
}

func TestParseAgreesWithJudge(t *testing.T) {
	r := rand.New(rand.NewSource(3))
	seen := map[api.Errno]int{}
	for range 30000 {
		b := mixed(t, r)
		want := judgeParse(b)
		expectParse(t, "mixed", b, want)
		seen[want.e]++
		if t.Failed() {
			return
		}
	}
	if len(seen) != 4 || seen[api.OK] < 1000 || seen[api.ErrShort] < 500 || seen[api.ErrForm] < 1000 || seen[api.ErrGap] < 500 {
		t.Error("too few inputs of a kind:", seen)
	}
}

// lists are the numbers of the contents of a manifest's encoding, by the test's own means.
func lists(m segment.Manifest) []uint64 {
	var words []uint64
	for _, l := range [][]int{m.Segs, m.Snaps} {
		words = append(words, uint64(len(l)))
		for i, n := range l {
			if i > 0 {
				n -= l[i-1] + 1
			}
			words = append(words, uint64(n))
		}
	}
	return words
}

func sameManifest(a, b segment.Manifest) bool {
	return slices.Equal(a.Segs, b.Segs) && slices.Equal(a.Snaps, b.Snaps)
}

// expectManifest reports a manifest that is not encoded as wanted, or not read again.
func expectManifest(t testing.TB, name string, m segment.Manifest, want []byte) {
	t.Helper()
	was := segment.Manifest{Segs: slices.Clone(m.Segs), Snaps: slices.Clone(m.Snaps)}
	if b, e := segment.Put(m); e != api.OK || !bytes.Equal(b, want) {
		t.Errorf("%s: Put(%s) = %s, %d, want %s", name, brief(m), brief(b), e, brief(want))
	}
	if !sameManifest(m, was) {
		t.Errorf("%s: the argument became %s", name, brief(m))
	}
	given := bytes.Clone(want)
	if o, e := segment.Read(given); e != api.OK || !sameManifest(o, m) {
		t.Errorf("%s: Read(%s) = %s, %d, want %s", name, brief(want), brief(o), e, brief(m))
	}
	if !bytes.Equal(given, want) {
		t.Errorf("%s: the bytes became %s", name, brief(given))
	}
}

// refuseManifest reports a manifest that is encoded though it cannot be.
func refuseManifest(t testing.TB, name string, m segment.Manifest) {
	t.Helper()
	was := segment.Manifest{Segs: slices.Clone(m.Segs), Snaps: slices.Clone(m.Snaps)}
	if b, e := segment.Put(m); e != api.ErrArg || len(b) != 0 {
		t.Errorf("%s: Put(%s) = %s, %d, want ErrArg", name, brief(m), brief(b), e)
	}
	if !sameManifest(m, was) {
		t.Errorf("%s: the argument became %s", name, brief(m))
	}
}

// refuseRead reports bytes that are read as a manifest though they are no encoding.
func refuseRead(t testing.TB, name string, b []byte) {
	t.Helper()
	was := bytes.Clone(b)
	if m, e := segment.Read(b); e != api.ErrForm || len(m.Segs) != 0 || len(m.Snaps) != 0 {
		t.Errorf("%s: Read(%s) = %s, %d, want ErrForm", name, brief(b), brief(m), e)
	}
	if !bytes.Equal(b, was) {
		t.Errorf("%s: the argument became %s", name, brief(b))
	}
}

func TestEncodingsOfManifests(t *testing.T) {
	for _, c := range []struct {
		segs, snaps []int
		want        string
	}{
		{nil, nil, "\x00\x00"},
		{[]int{}, []int{}, "\x00\x00"},
		{[]int{0}, nil, "\x01\x00\x00"},
		{nil, []int{0}, "\x00\x01\x00"},
		{[]int{1}, nil, "\x01\x01\x00"},
		{nil, []int{1}, "\x00\x01\x01"},
		{[]int{0}, []int{0}, "\x01\x00\x01\x00"},
		{[]int{0, 10, 300}, []int{5}, "\x03\x00\x09\xa1\x02\x01\x05"},
		{[]int{5}, []int{0, 10, 300}, "\x01\x05\x03\x00\x09\xa1\x02"},
		{[]int{0, 1, 2}, []int{3, 4}, "\x03\x00\x00\x00\x02\x03\x00"},
		{[]int{128, 256, 257, 385}, nil, "\x04\x80\x01\x7f\x00\x7f\x00"},
		{[]int{127, 256}, []int{128}, "\x02\x7f\x80\x01\x01\x80\x01"},
		{[]int{mostTick}, nil, "\x01\xff\xff\xff\xff\x07\x00"},
		{nil, []int{mostTick}, "\x00\x01\xff\xff\xff\xff\x07"},
		{[]int{0, mostTick}, []int{mostTick - 1, mostTick}, "\x02\x00\xfe\xff\xff\xff\x07\x02\xfe\xff\xff\xff\x07\x00"},
	} {
		m := segment.Manifest{Segs: c.segs, Snaps: c.snaps}
		expectManifest(t, "a manifest", m, framed([]byte(c.want)))
		if !bytes.Equal(put(lists(m)...), []byte(c.want)) {
			t.Error("the test's own lists differ:", m)
		}
	}
}

// right are lists that can be encoded.
func right() [][]int {
	return [][]int{
		nil, {}, {0}, {1}, {7}, {127}, {128}, {mostTick - 1}, {mostTick}, {0, 1}, {1, 2}, {0, 2}, {0, 128}, {0, 129}, {0, mostTick}, {1, mostTick},
		{mostTick - 1, mostTick}, {mostTick - 2, mostTick}, {0, 1, 2, 3, 4, 5}, {3, 4, 9, 300, 70000}, {0, mostTick - 1, mostTick}, {0, 1, mostTick},
		{5, 16389, 16390, 32774, 1 << 30, 1<<31 - 2},
	}
}

// wrong are lists that cannot.
func wrong() [][]int {
	return [][]int{
		{-1}, {-2}, {-1, 0}, {-2, -1}, {-1, 5}, {0, -1}, {5, -1}, {0, -1, 1}, {-1, -1}, {-7, 0, 7}, {mostTick + 1}, {mostTick + 2}, {0, mostTick + 1},
		{mostTick, mostTick + 1}, {mostTick + 1, mostTick + 2}, {0, mostTick, mostTick + 1}, {1 << 32}, {1 << 32, 1<<32 + 1}, {0, 1 << 32}, {9999999999},
		{0, 0}, {1, 1}, {2, 2}, {mostTick, mostTick}, {mostTick + 1, mostTick + 1}, {0, 0, 1}, {0, 1, 1}, {0, 5, 5, 6}, {0, 5, 6, 6}, {3, 3, 3},
		{1, 0}, {2, 1}, {9, 3}, {mostTick, 0}, {mostTick, mostTick - 1}, {0, 5, 4}, {0, 5, 0}, {5, 4, 6}, {0, 9, 8, 10}, {0, 1, 2, 1}, {1, 0, 2},
		{math.MinInt}, {math.MaxInt}, {math.MinInt, 0}, {0, math.MaxInt}, {0, math.MinInt}, {math.MaxInt, math.MinInt}, {math.MinInt, math.MaxInt}, {math.MaxInt, 0},
		{-mostTick}, {-mostTick - 1, mostTick},
	}
}

func TestListsOfManifests(t *testing.T) {
	for _, a := range right() {
		for _, b := range right() {
			m := segment.Manifest{Segs: a, Snaps: b}
			expectManifest(t, "right lists", m, framed(put(lists(m)...)))
		}
		for _, b := range wrong() {
			refuseManifest(t, "wrong Snaps", segment.Manifest{Segs: a, Snaps: b})
			refuseManifest(t, "wrong Segs", segment.Manifest{Segs: b, Snaps: a})
		}
	}
	for _, a := range wrong() {
		refuseManifest(t, "wrong lists", segment.Manifest{Segs: a, Snaps: a})
	}
}

// TestListsAreApart shows that the one list does not depend on the other.
func TestListsAreApart(t *testing.T) {
	for _, m := range []segment.Manifest{
		{Segs: []int{9}, Snaps: []int{9}}, {Segs: []int{9}, Snaps: []int{3}}, {Segs: []int{0, 9}, Snaps: []int{0, 9}}, {Segs: []int{mostTick}, Snaps: []int{0}},
		{Segs: []int{mostTick}, Snaps: []int{mostTick}},
	} {
		expectManifest(t, "lists apart", m, framed(put(lists(m)...)))
	}
}

func TestReadBytesThatAreNotOneFrame(t *testing.T) {
	m := segment.Manifest{Segs: []int{0, 10, 300}, Snaps: []int{5}}
	b := framed(put(lists(m)...))
	expectManifest(t, "a manifest", m, b)
	refuseRead(t, "nil", nil)
	refuseRead(t, "no bytes", []byte{})
	refuseRead(t, "contents alone", put(lists(m)...))
	for i := range b {
		refuseRead(t, "a frame that is torn", b[:i])
		refuseRead(t, "a frame without its beginning", b[i+1:])
	}
	for at := range 8 * len(b) {
		refuseRead(t, "a frame that is turned", turned(b, at))
	}
	for c := range 256 {
		refuseRead(t, "a byte behind the frame", append(bytes.Clone(b), byte(c)))
		refuseRead(t, "a byte before the frame", append([]byte{byte(c)}, b...))
	}
	empty := framed(nil)
	for name, other := range map[string][]byte{
		"itself": b, "an empty frame": empty, "the zero manifest": framed(put(0, 0)), "a head": head(300), "half a frame": b[:5], "a frame that is turned": turned(b, 20),
		"a length that is too great": put(mostFramed + 1), "a length that is longer than need be": {0x80, 0}, "more frames": join(b, b, b),
	} {
		refuseRead(t, name+" behind", join(b, other))
		refuseRead(t, name+" before", join(other, b))
	}
	refuseRead(t, "an empty frame", empty)
	refuseRead(t, "the frame of a frame", framed(b))
	refuseRead(t, "a length that is longer than need be", join([]byte{b[0] | 0x80, 0}, b[1:]))
	refuseRead(t, "a frame that is too long", framed(make([]byte, mostFramed+1)))
	refuseRead(t, "two frames, one of each list", join(framed(put(3, 0, 9, 289)), framed(put(1, 5))))
	refuseRead(t, "a segment", join(head(300), record(t, api.Record{Tick: 300})))
}

func TestReadContentsThatAreNoManifest(t *testing.T) {
	for name, b := range map[string][]byte{
		"empty":                                 nil,
		"one list, empty":                       put(0),
		"one list":                              put(1, 5),
		"one list of three":                     put(3, 0, 9, 289),
		"a number of elements alone":            put(1),
		"Snaps' number of elements alone":       put(0, 1),
		"one element too few in Segs":           put(2, 5),
		"one element too few in Snaps":          put(0, 2, 5),
		"one element too few in Segs, a list":   put(3, 5, 6),
		"an element too many":                   put(0, 0, 0),
		"an element too many behind Snaps":      put(1, 5, 1, 5, 0),
		"a byte 255 behind":                     append(put(0, 0), 255),
		"a third list":                          put(1, 5, 1, 5, 1, 5),
		"a number without its end":              {1, 0x80},
		"Snaps' number without its end":         {0, 1, 0x80},
		"a count without its end":               {0x81},
		"Snaps' count without its end":          {0, 0x81},
		"a count that is longer than need be":   {0x80, 0, 0},
		"Snaps' count longer than need be":      {0, 0x80, 0},
		"an element that is longer":             {1, 0x85, 0, 0},
		"a difference that is longer":           {2, 5, 0x80, 0, 0},
		"an element of Snaps that is longer":    {0, 1, 0x85, 0},
		"a difference of Snaps that is longer":  {0, 2, 5, 0x80, 0},
		"a number of eleven bytes":              append(append([]byte{1}, bytes.Repeat([]byte{0x80}, 10)...), 1, 0),
		"a tenth byte 2":                        append(append([]byte{1}, bytes.Repeat([]byte{0xff}, 9)...), 2, 0),
		"a head":                                put(7, 300),
		"a text":                                []byte("manifest"),
		"a record":                              contents(t, api.Record{Tick: 1, Ways: []int{1, 2, 3}}),
		"many bytes behind":                     make([]byte, mostFramed),
		"many bytes that have no end":           bytes.Repeat([]byte{0x80}, mostFramed),
		"many elements, one more than there is": append(put(mostFramed-3), make([]byte, mostFramed-3)...),
	} {
		refuseRead(t, name, framed(b))
	}
}

func TestReadCountsThatAreTooGreat(t *testing.T) {
	for _, many := range []uint64{2, 3, 4, 100, mostListed, mostListed + 1, mostTick, mostTick + 1, 1<<32 - 1, 1 << 32, 1<<32 + 1, math.MaxInt64 - 1, math.MaxInt64, 1 << 63,
		1<<63 + 1, math.MaxUint64 - 1, math.MaxUint64} {
		refuseRead(t, "a count of Segs", framed(put(many)))
		refuseRead(t, "a count of Segs and an element", framed(put(many, 5)))
		refuseRead(t, "a count of Snaps", framed(put(0, many)))
		refuseRead(t, "a count of Snaps and an element", framed(put(0, many, 5)))
		refuseRead(t, "a count of both", framed(put(many, many)))
	}
	for _, many := range []uint64{mostListed + 1, mostTick, 1 << 32, 1 << 63, math.MaxUint64} {
		refuseRead(t, "a count of Segs and many elements", framed(append(put(many), make([]byte, mostListed)...)))
		refuseRead(t, "a count of Snaps and many elements", framed(append(put(0, many), make([]byte, mostListed)...)))
	}
}

func TestReadNumbersThatAreTooGreat(t *testing.T) {
	ok := func(l ...uint64) {
		t.Helper()
		for _, words := range [][]uint64{append(l, 0), append([]uint64{0}, l...)} {
			b := framed(put(words...))
			m, e := segment.Read(b)
			if again, _ := segment.Put(m); e != api.OK || !bytes.Equal(again, b) {
				t.Errorf("Read of the frame of %d: %s, %d", words, brief(m), e)
			}
		}
	}
	no := func(l ...uint64) {
		t.Helper()
		refuseRead(t, fmt.Sprint("Segs ", l), framed(put(append(l, 0)...)))
		refuseRead(t, fmt.Sprint("Snaps ", l), framed(put(append([]uint64{0}, l...)...)))
		refuseRead(t, fmt.Sprint("both ", l), framed(put(append(l, l...)...)))
	}
	ok(1, mostTick)
	ok(2, 0, mostTick-1)
	ok(2, mostTick-1, 0)
	ok(2, 5, mostTick-6)
	ok(3, 0, 0, mostTick-2)
	ok(3, 0, mostTick-2, 0)
	ok(3, 1<<30, 1<<29, 1<<29-3)
	no(2, 0, mostTick)
	no(2, mostTick, 0)
	no(2, mostTick-1, 1)
	no(2, 5, mostTick-5)
	no(2, mostTick, mostTick)
	no(3, 0, 0, mostTick-1)
	no(3, 0, mostTick-1, 0)
	no(3, mostTick, 0, 0)
	no(3, 1<<30, 1<<30, 1<<30)
	no(3, mostTick, mostTick, mostTick)
	for _, n := range []uint64{mostTick + 1, mostTick + 2, 1<<32 - 2, 1<<32 - 1, 1 << 32, 1<<32 + 5, math.MaxInt64 - 1, math.MaxInt64, 1 << 63, 1<<63 + 5, math.MaxUint64 - 6,
		math.MaxUint64 - 5, math.MaxUint64 - 1, math.MaxUint64} {
		no(1, n)
		no(2, 0, n)
		no(2, 5, n)
		no(2, mostTick, n)
		no(2, n, 0)
		no(2, n, n)
		// The sum of these returns to the numbers that can be, if it has 64 bits or fewer.
		no(3, 5, n, math.MaxUint64-n)
		no(3, n, math.MaxUint64-n, 5)
		no(2, n, -n)
		no(2, -n, n)
	}
}

// takeAll returns the numbers that bytes consist of, if they do.
func takeAll(b []byte) ([]uint64, bool) {
	var l []uint64
	for at := 0; at < len(b); {
		n, size := binary.Uvarint(b[at:])
		if size <= 0 || size > 1 && b[at+size-1] == 0 {
			return nil, false
		}
		l = append(l, n)
		at += size
	}
	return l, true
}

// judgeManifest says what Read must answer of the contents of a frame, by the library's means.
func judgeManifest(b []byte) (segment.Manifest, bool) {
	words, ok := takeAll(b)
	if !ok {
		return segment.Manifest{}, false
	}
	var both [2][]int
	for i := range both {
		if len(words) == 0 || words[0] > uint64(len(words)-1) {
			return segment.Manifest{}, false
		}
		many := words[0]
		for j, n := range words[1 : 1+many] {
			if n > mostTick {
				return segment.Manifest{}, false
			}
			sum := int(n)
			if j > 0 {
				sum += both[i][j-1] + 1
			}
			if sum > mostTick {
				return segment.Manifest{}, false
			}
			both[i] = append(both[i], sum)
		}
		words = words[1+many:]
	}
	return segment.Manifest{Segs: both[0], Snaps: both[1]}, len(words) == 0
}

// expectJudged compares what Read answers of the frame of contents with what it must, and says whether they were a manifest's.
func expectJudged(t testing.TB, b []byte) bool {
	t.Helper()
	m, ok := judgeManifest(b)
	if !ok {
		refuseRead(t, "contents", framed(b))
		return false
	}
	expectManifest(t, "contents", m, framed(b))
	return true
}

func TestAllShortContents(t *testing.T) {
	accepted := 0
	letters := []byte{0, 1, 2, 3, 5, 127, 128, 129, 255}
	l := [][]byte{nil}
	for range 6 {
		var longer [][]byte
		for _, b := range l {
			if expectJudged(t, b) {
				accepted++
			}
			for _, c := range letters {
				longer = append(longer, append(slices.Clone(b), c))
			}
		}
		l = longer
	}
	for i := range 1 << 16 {
		if expectJudged(t, []byte{byte(i), byte(i >> 8)}) {
			accepted++
		}
	}
	if accepted < 100 {
		t.Error("too few manifests:", accepted)
	}
}

// chosenList returns a list that can be encoded, which r chooses.
func chosenList(r *rand.Rand) []int {
	var l []int
	shift := r.Intn(32)
	for range r.Intn(12) {
		l = append(l, r.Intn(mostTick+1)>>shift)
	}
	slices.Sort(l)
	return slices.Compact(l)
}

func TestManifestsAndEncodingsTurnIntoEachOther(t *testing.T) {
	r := rand.New(rand.NewSource(4))
	for range 20000 {
		m := segment.Manifest{Segs: chosenList(r), Snaps: chosenList(r)}
		expectManifest(t, "chosen", m, framed(put(lists(m)...)))
	}
}

func TestChosenListsThatMayNotBe(t *testing.T) {
	r := rand.New(rand.NewSource(5))
	seen := map[bool]int{}
	for range 30000 {
		var both [2][]int
		for i := range both {
			for range r.Intn(4) {
				both[i] = append(both[i], r.Intn(7)-1)
			}
			if r.Intn(2) == 0 {
				slices.Sort(both[i])
			}
		}
		m := segment.Manifest{Segs: both[0], Snaps: both[1]}
		ok := true
		for _, l := range both {
			for i, n := range l {
				ok = ok && n >= 0 && (i == 0 || l[i-1] < n)
			}
		}
		seen[ok]++
		if ok {
			expectManifest(t, "chosen", m, framed(put(lists(m)...)))
		} else {
			refuseManifest(t, "chosen", m)
		}
	}
	if seen[true] < 1000 || seen[false] < 1000 {
		t.Error("too few manifests of a kind:", seen)
	}
}

func TestOtherContentsAreReadAsOthers(t *testing.T) {
	r := rand.New(rand.NewSource(6))
	seen := map[bool]int{}
	for range 30000 {
		b := put(lists(segment.Manifest{Segs: chosenList(r), Snaps: chosenList(r)})...)
		for range 1 + r.Intn(2) {
			switch at := r.Intn(len(b)); r.Intn(4) {
			case 0:
				b[at] ^= 1 << r.Intn(8)
			case 1:
				b[at] = byte(r.Intn(256))
			case 2:
				b = slices.Insert(b, at, byte(r.Intn(256)))
			default:
				b = append(slices.Delete(b, at, at+1), 0)
			}
		}
		seen[expectJudged(t, b)]++
		if t.Failed() {
			return
		}
	}
	if seen[true] < 1000 || seen[false] < 1000 {
		t.Error("too few contents of a kind:", seen)
	}
}

func TestManyNumbers(t *testing.T) {
	for _, apart := range []int{1, 2, 129, 16385, mostTick / (mostListed - 1)} {
		l := make([]int, mostListed)
		for i := range l {
			l[i] = i * apart
		}
		for _, m := range []segment.Manifest{{Segs: l}, {Snaps: l}, {Segs: l, Snaps: l}} {
			expectManifest(t, "many", m, framed(put(lists(m)...)))
		}
		same := slices.Clone(l)
		same[mostListed-1] = same[mostListed-2]
		refuseManifest(t, "many, two of them equal", segment.Manifest{Segs: l, Snaps: same})
		refuseManifest(t, "many, two of them equal", segment.Manifest{Segs: same, Snaps: l})
	}
}

// TestMoreNumbersThanPromised shows that such calls come back, and that a manifest without a frame has no encoding.
func TestMoreNumbersThanPromised(t *testing.T) {
	l := make([]int, mostFramed+1)
	for i := range l {
		l[i] = i
	}
	refuseManifest(t, "no frame", segment.Manifest{Segs: l})
	refuseManifest(t, "no frame", segment.Manifest{Snaps: l})
	m := segment.Manifest{Segs: l[:3*mostListed], Snaps: l[mostListed : 3*mostListed]}
	expectManifest(t, "a frame", m, framed(put(lists(m)...)))
}

func TestResultsShareNothing(t *testing.T) {
	h, other := segment.Head(300), segment.Head(300)
	clear(h)
	if !bytes.Equal(other, head(300)) || !bytes.Equal(segment.Head(300), head(300)) {
		t.Error("a head changed with another one")
	}

	m := segment.Manifest{Segs: []int{1, 2, 3}, Snaps: []int{4, 5}}
	b, _ := segment.Put(m)
	c, _ := segment.Put(m)
	was := string(c)
	clear(b)
	clear(m.Segs)
	clear(m.Snaps)
	if string(c) != was {
		t.Error("an encoding changed with another one, or with the manifest")
	}

	p, _ := segment.Read(c)
	q, _ := segment.Read(c)
	clear(c)
	p.Segs = append(p.Segs, 9)
	p.Snaps = append(p.Snaps, 9)
	p.Segs[0], p.Snaps[0] = 8, 8
	if !slices.Equal(p.Segs, []int{8, 2, 3, 9}) || !slices.Equal(p.Snaps, []int{8, 5, 9}) {
		t.Error("the lists of a manifest share something:", p)
	}
	if !sameManifest(q, segment.Manifest{Segs: []int{1, 2, 3}, Snaps: []int{4, 5}}) {
		t.Error("a manifest changed with another one, or with the bytes:", q)
	}
}

func TestRecordsShareNothing(t *testing.T) {
	l := some(300)
	b := join(head(300), laid(t, l))
	s, o := parse(b), parse(b)
	clear(b)
	for i := range s.records {
		x := &s.records[i]
		x.Inputs = append(x.Inputs, api.Input{})
		x.Codes = append(x.Codes, 9)
		x.Ways = append(x.Ways, 9)
		x.Tick, x.Inputs[0].Kind, x.Codes[0], x.Ways[0] = 1, 9, 9, 9
	}
	for i, x := range s.records {
		if len(x.Inputs) != len(l[i].Inputs)+1 || len(x.Ways) != len(l[i].Ways)+1 || x.Ways[len(x.Ways)-1] != 9 || x.Codes[len(x.Codes)-1] != 9 {
			t.Error("a record changed with another one:", i)
		}
	}
	if !slices.EqualFunc(o.records, l, sameRecord) {
		t.Error("records changed with others, or with the bytes")
	}
}

func TestBytesBehindTheLengthAreNotRead(t *testing.T) {
	b := join(head(300), record(t, api.Record{Tick: 300}))
	size := len(head(300))
	expectParse(t, "a shorter slice", b[:size], segmentation{first: 300, size: size})
	expectParse(t, "a shorter slice", b[:len(b)-1], segmentation{first: 300, size: size, rest: frame.Torn})
	refuseParse(t, "a shorter slice", b[:size-1], api.ErrShort)
	refuseParse(t, "an empty slice", b[:0], api.ErrShort)

	m := segment.Manifest{Segs: []int{3}, Snaps: []int{3}}
	twice := join(framed(put(lists(m)...)), framed(put(lists(m)...)))
	expectManifest(t, "a shorter slice", m, twice[:len(twice)/2])
	refuseRead(t, "a shorter slice", twice[:len(twice)/2-1])
	expectManifest(t, "shorter lists", segment.Manifest{Segs: []int{1, 0}[:1], Snaps: []int{-1}[:0]}, framed(put(1, 1, 0)))
}

func TestArgumentsMayBeOneSlice(t *testing.T) {
	l := []int{1, 5, 9}
	m := segment.Manifest{Segs: l, Snaps: l}
	expectManifest(t, "one slice", m, framed(put(3, 1, 3, 3, 3, 1, 3, 3)))
	m = segment.Manifest{Segs: l, Snaps: l[1:]}
	expectManifest(t, "one slice", m, framed(put(3, 1, 3, 3, 2, 5, 3)))
}

func TestCallsAtTheSameTime(t *testing.T) {
	l := some(300)
	b := join(head(300), laid(t, l))
	m := segment.Manifest{Segs: []int{0, 10, 300}, Snaps: []int{5}}
	d := framed(put(lists(m)...))
	var all sync.WaitGroup
	for range 8 {
		all.Go(func() {
			for range 100 {
				kind, tick := segment.Tick(segment.Snap(300))
				s := parse(b)
				f, _ := segment.Put(m)
				o, _ := segment.Read(d)
				if kind != 2 || tick != 300 || !s.same(segmentation{first: 300, records: l, size: len(b)}) || !bytes.Equal(f, d) || !sameManifest(o, m) ||
					!bytes.Equal(segment.Head(300), head(300)) {
					t.Error("an answer differs")
					return
				}
			}
		})
	}
	all.Wait()
}

// TestManyRecords would take long if each record cost more than its bytes.
func TestManyRecords(t *testing.T) {
	const many = 200000
	b := head(0)
	for i := range many {
		b = append(b, framed(put(uint64(i), 0, 0, 0))...)
	}
	s := parse(b)
	if s.e != api.OK || s.first != 0 || s.size != len(b) || s.rest != frame.Whole || len(s.records) != many {
		t.Fatal(s.first, len(s.records), s.size, s.rest, s.e)
	}
	for i, x := range s.records {
		if !sameRecord(x, api.Record{Tick: i}) {
			t.Fatal(i, x)
		}
	}
}

func TestImports(t *testing.T) {
	f, err := parser.ParseFile(token.NewFileSet(), "segment.go", nil, parser.ImportsOnly)
	if err != nil {
		t.Fatal(err)
	}
	for _, i := range f.Imports {
		if !slices.Contains([]string{`"strconv"`, `"strings"`, `"tugger/api"`, `"tugger/varint"`, `"tugger/frame"`, `"tugger/codec"`}, i.Path.Value) {
			t.Error("segment imports", i.Path.Value)
		}
	}
}

func BenchmarkParse(b *testing.B) {
	l := head(0)
	for i := range 1000 {
		l = append(l, record(b, api.Record{Tick: i, Ways: make([]int, 100)})...)
	}
	for b.Loop() {
		segment.Parse(l)
	}
}
