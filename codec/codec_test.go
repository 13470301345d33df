package codec_test

import (
	"bytes"
	"encoding/binary"
	"go/parser"
	"go/token"
	"hash/crc32"
	"math"
	"math/rand"
	"reflect"
	"slices"
	"sync"
	"testing"

	"tugger/api"
	"tugger/codec"
)

const (
	mostOne  = 1<<31 - 1
	mostWays = 100000
)

// put returns the encodings of numbers by the library's means.
func put(l ...uint64) []byte {
	var b []byte
	for _, n := range l {
		b = binary.AppendUvarint(b, n)
	}
	return b
}

// signed returns numbers as the encodings of signed ones have them.
func signed(l ...int) []uint64 {
	var z []uint64
	for _, n := range l {
		z = append(z, uint64(n)<<1^uint64(n>>63))
	}
	return z
}

// stateWords is the test's own list of the numbers of a state's encoding.
func stateWords(s api.State) []uint64 {
	l := []int{s.Tick, len(s.Robots)}
	for _, r := range s.Robots {
		l = append(l, r.Cell, r.Mode, r.Task, r.Battery, r.Hold)
	}
	l = append(l, len(s.Tasks))
	for _, x := range s.Tasks {
		l = append(l, x.Id, x.From, x.To, x.State, x.Robot+1)
	}
	l = append(l, len(s.Blocked))
	for i, cell := range s.Blocked {
		if i == 0 {
			l = append(l, cell)
		} else {
			l = append(l, cell-s.Blocked[i-1]-1)
		}
	}
	var words []uint64
	for _, n := range l {
		words = append(words, uint64(n))
	}
	return words
}

// recordWords is the test's own list of the numbers of a record's encoding.
func recordWords(x api.Record) []uint64 {
	words := []uint64{uint64(x.Tick), uint64(len(x.Inputs))}
	for i, in := range x.Inputs {
		words = append(append(words, signed(in.Kind, in.A, in.B, in.C)...), uint64(x.Codes[i]))
	}
	var runs []uint64
	for at := 0; at < len(x.Ways); {
		end := at
		for end < len(x.Ways) && x.Ways[end] == x.Ways[at] {
			end++
		}
		runs = append(runs, uint64(x.Ways[at]), uint64(end-at-1))
		at = end
	}
	words = append(append(words, uint64(len(runs)/2)), runs...)
	return append(words, uint64(x.Check))
}

// cloneState returns a copy of a state whose empty slices are nil.
func cloneState(s api.State) api.State {
	return api.State{
		Tick:    s.Tick,
		Robots:  append([]api.Robot(nil), s.Robots...),
		Tasks:   append([]api.Task(nil), s.Tasks...),
		Blocked: append([]int(nil), s.Blocked...),
	}
}

// cloneRecord returns a copy of a record whose empty slices are nil.
func cloneRecord(x api.Record) api.Record {
	return api.Record{
		Tick:   x.Tick,
		Inputs: append([]api.Input(nil), x.Inputs...),
		Codes:  append([]api.Errno(nil), x.Codes...),
		Ways:   append([]int(nil), x.Ways...),
		Check:  x.Check,
	}
}

func sameState(a, b api.State) bool   { return reflect.DeepEqual(cloneState(a), cloneState(b)) }
func sameRecord(a, b api.Record) bool { return reflect.DeepEqual(cloneRecord(a), cloneRecord(b)) }

// expectState reports a state that is not encoded as wanted, or not read again, or that has another digest.
func expectState(t *testing.T, name string, s api.State, want []byte) {
	t.Helper()
	was := cloneState(s)
	if b, e := codec.State(s); e != api.OK || !bytes.Equal(b, want) {
		t.Errorf("%s: State(%.300v) = %.300v, %d, want %.300v", name, s, b, e, want)
	}
	if sum := codec.Digest(s); sum != crc32.ChecksumIEEE(want) {
		t.Errorf("%s: Digest(%.300v) = %x, want %x", name, s, sum, crc32.ChecksumIEEE(want))
	}
	if !sameState(s, was) {
		t.Errorf("%s: the argument became %.300v", name, s)
	}
	given := bytes.Clone(want)
	if u, e := codec.ReadState(given); e != api.OK || !sameState(u, s) {
		t.Errorf("%s: ReadState(%.300v) = %.300v, %d, want %.300v", name, want, u, e, s)
	}
	if !bytes.Equal(given, want) {
		t.Errorf("%s: the bytes became %.300v", name, given)
	}
}

// expectRecord reports a record that is not encoded as wanted, or not read again.
func expectRecord(t *testing.T, name string, x api.Record, want []byte) {
	t.Helper()
	was := cloneRecord(x)
	if b, e := codec.Record(x); e != api.OK || !bytes.Equal(b, want) {
		t.Errorf("%s: Record(%.300v) = %.300v, %d, want %.300v", name, x, b, e, want)
	}
	if !sameRecord(x, was) {
		t.Errorf("%s: the argument became %.300v", name, x)
	}
	given := bytes.Clone(want)
	if y, e := codec.ReadRecord(given); e != api.OK || !sameRecord(y, x) {
		t.Errorf("%s: ReadRecord(%.300v) = %.300v, %d, want %.300v", name, want, y, e, x)
	}
	if !bytes.Equal(given, want) {
		t.Errorf("%s: the bytes became %.300v", name, given)
	}
}

// refuseState reports a state that is encoded though it cannot be.
func refuseState(t *testing.T, name string, s api.State) {
	t.Helper()
	if b, e := codec.State(s); e != api.ErrArg || len(b) != 0 {
		t.Errorf("%s: State(%.300v) = %.300v, %d", name, s, b, e)
	}
	if sum := codec.Digest(s); sum != 0 {
		t.Errorf("%s: Digest(%.300v) = %x", name, s, sum)
	}
}

// refuseRecord reports a record that is encoded though it cannot be.
func refuseRecord(t *testing.T, name string, x api.Record) {
	t.Helper()
	if b, e := codec.Record(x); e != api.ErrArg || len(b) != 0 {
		t.Errorf("%s: Record(%.300v) = %.300v, %d", name, x, b, e)
	}
}

// refuseStateBytes reports bytes that are read as a state though they are no encoding.
func refuseStateBytes(t *testing.T, name string, b []byte) {
	t.Helper()
	if s, e := codec.ReadState(b); e != api.ErrForm || !sameState(s, api.State{}) {
		t.Errorf("%s: ReadState(%.300v) = %.300v, %d", name, b, s, e)
	}
}

// refuseRecordBytes reports bytes that are read as a record though they are no encoding.
func refuseRecordBytes(t *testing.T, name string, b []byte) {
	t.Helper()
	if x, e := codec.ReadRecord(b); e != api.ErrForm || !sameRecord(x, api.Record{}) {
		t.Errorf("%s: ReadRecord(%.300v) = %.300v, %d", name, b, x, e)
	}
}

func baseState() api.State {
	return api.State{
		Tick: 300,
		Robots: []api.Robot{
			{Cell: 5, Mode: 2, Task: 9, Battery: 1000, Hold: 1},
			{Cell: 70000, Mode: 0, Task: 0, Battery: 99, Hold: 128},
		},
		Tasks: []api.Task{
			{Id: 9, From: 1, To: 2, State: 3, Robot: 0},
			{Id: 1, From: 2, To: 127, State: 1, Robot: -1},
			{Id: mostOne, From: 0, To: 16384, State: 4, Robot: 127},
		},
		Blocked: []int{0, 1, 200, 70000},
	}
}

func baseRecord() api.Record {
	return api.Record{
		Tick:   7,
		Inputs: []api.Input{{Kind: 1, A: 2, B: -1, C: 300}, {Kind: 5}, {Kind: -64, A: 64, B: math.MinInt64, C: math.MaxInt64}},
		Codes:  []api.Errno{0, 6, 255},
		Ways:   []int{0, 0, 0, 1, 0, 4, 4, 3, 2},
		Check:  0xcbf43926,
	}
}

func TestEncodingsOfStates(t *testing.T) {
	expectState(t, "zero", api.State{}, []byte{0, 0, 0, 0})
	if sum := codec.Digest(api.State{}); sum != 0x2144df1c {
		t.Errorf("Digest of the zero state: %x", sum)
	}
	for _, c := range []struct {
		name string
		s    api.State
		want string
	}{
		{"a tick", api.State{Tick: 300}, "\xac\x02\x00\x00\x00"},
		{"a robot", api.State{Robots: []api.Robot{{Cell: 1, Mode: 2, Task: 3, Battery: 4, Hold: 5}}}, "\x00\x01\x01\x02\x03\x04\x05\x00\x00"},
		{"a task", api.State{Tasks: []api.Task{{Id: 1, From: 2, To: 3, State: 4, Robot: 5}}}, "\x00\x00\x01\x01\x02\x03\x04\x06\x00"},
		{"a task without a robot", api.State{Tasks: []api.Task{{Id: 1, From: 2, To: 3, State: 1, Robot: -1}}}, "\x00\x00\x01\x01\x02\x03\x01\x00\x00"},
		{"the zero robot", api.State{Robots: []api.Robot{{}}}, "\x00\x01\x00\x00\x00\x00\x00\x00\x00"},
		{"the zero task", api.State{Tasks: []api.Task{{}}}, "\x00\x00\x01\x00\x00\x00\x00\x01\x00"},
		{"numbers of more bytes", api.State{Tick: 128, Robots: []api.Robot{{Cell: 127, Mode: 128, Task: mostOne, Battery: 16384, Hold: 255}}},
			"\x80\x01\x01\x7f\x80\x01\xff\xff\xff\xff\x07\x80\x80\x01\xff\x01\x00\x00"},
		{"modes and states that do not exist", api.State{Robots: []api.Robot{{Mode: 99}}, Tasks: []api.Task{{State: 77}}},
			"\x00\x01\x00\x63\x00\x00\x00\x01\x00\x00\x00\x4d\x01\x00"},
		{"all", api.State{
			Tick:   300,
			Robots: []api.Robot{{Cell: 5, Mode: 2, Task: 9, Battery: 1000, Hold: 1}, {Cell: 6}},
			Tasks: []api.Task{
				{Id: 9, From: 1, To: 2, State: 3, Robot: 0},
				{Id: 1, From: 2, To: 1, State: 1, Robot: -1},
			},
			Blocked: []int{0, 1, 200},
		}, "\xac\x02\x02\x05\x02\x09\xe8\x07\x01\x06\x00\x00\x00\x00\x02\x09\x01\x02\x03\x01\x01\x02\x01\x01\x00\x03\x00\x00\xc6\x01"},
	} {
		expectState(t, c.name, c.s, []byte(c.want))
	}
	expectState(t, "base", baseState(), put(stateWords(baseState())...))
}

func TestBlockedCells(t *testing.T) {
	for _, c := range []struct {
		blocked []int
		want    []uint64
	}{
		{nil, []uint64{0}},
		{[]int{}, []uint64{0}},
		{[]int{0}, []uint64{1, 0}},
		{[]int{1}, []uint64{1, 1}},
		{[]int{mostOne}, []uint64{1, mostOne}},
		{[]int{0, 1}, []uint64{2, 0, 0}},
		{[]int{0, 1, 2, 3}, []uint64{4, 0, 0, 0, 0}},
		{[]int{7, 8}, []uint64{2, 7, 0}},
		{[]int{7, 9, 10, 300}, []uint64{4, 7, 1, 0, 289}},
		{[]int{0, mostOne}, []uint64{2, 0, mostOne - 1}},
		{[]int{1, mostOne}, []uint64{2, 1, mostOne - 2}},
		{[]int{mostOne - 1, mostOne}, []uint64{2, mostOne - 1, 0}},
		{[]int{0, mostOne - 1, mostOne}, []uint64{3, 0, mostOne - 2, 0}},
	} {
		expectState(t, "blocked", api.State{Blocked: c.blocked}, put(append([]uint64{0, 0, 0}, c.want...)...))
	}
	for _, blocked := range [][]int{
		{0, 0}, {2, 2}, {mostOne, mostOne}, {1, 0}, {9, 3}, {mostOne, 0}, {0, 5, 5}, {0, 5, 4}, {0, 5, 6, 6}, {0, 5, 6, 0}, {3, 3, 4},
		{5, 4, 6}, {-1}, {-1, 0}, {0, -1}, {-2, -1}, {mostOne + 1}, {0, mostOne + 1}, {mostOne, mostOne + 1}, {math.MinInt, 0}, {0, math.MaxInt},
		{math.MinInt, math.MaxInt}, {1 << 32}, {1 << 32, 1<<32 + 1},
	} {
		refuseState(t, "blocked", api.State{Blocked: blocked})
	}
}

// partsOf returns the places of the numbers of a state other than its blocked cells, and those among them that may be -1.
func partsOf(s *api.State) ([]*int, map[*int]bool) {
	l, negative := []*int{&s.Tick}, map[*int]bool{}
	for i := range s.Robots {
		r := &s.Robots[i]
		l = append(l, &r.Cell, &r.Mode, &r.Task, &r.Battery, &r.Hold)
	}
	for i := range s.Tasks {
		x := &s.Tasks[i]
		l = append(l, &x.Id, &x.From, &x.To, &x.State, &x.Robot)
		negative[&x.Robot] = true
	}
	return l, negative
}

func TestEachNumberOfAState(t *testing.T) {
	s := baseState()
	parts, negative := partsOf(&s)
	if len(parts) != 1+2*5+3*5 || len(negative) != 3 {
		t.Fatal(len(parts), len(negative))
	}
	for _, p := range parts {
		was := *p
		for _, n := range []int{0, 1, 127, 128, 16383, 16384, mostOne - 1, mostOne} {
			*p = n
			expectState(t, "a number", s, put(stateWords(s)...))
		}
		for _, n := range []int{-2, -3, mostOne + 1, mostOne + 2, 1 << 32, 1<<32 + 1, -mostOne, -mostOne - 1, math.MinInt, math.MinInt + 1, math.MaxInt} {
			*p = n
			refuseState(t, "a number", s)
		}
		*p = -1
		if negative[p] {
			expectState(t, "no robot", s, put(stateWords(s)...))
		} else {
			refuseState(t, "a number", s)
		}
		*p = was
	}
	expectState(t, "as it was", s, put(stateWords(baseState())...))
}

func TestDigestDiffersWithEachNumber(t *testing.T) {
	s := baseState()
	base := codec.Digest(s)
	parts, _ := partsOf(&s)
	for i := range s.Blocked[1:] {
		parts = append(parts, &s.Blocked[i+1])
	}
	for i, p := range parts {
		*p ^= 4
		if codec.Digest(s) == base {
			t.Errorf("number %d does not count", i)
		}
		*p ^= 4
	}
}

func TestEncodingsOfRecords(t *testing.T) {
	for _, c := range []struct {
		name string
		x    api.Record
		want string
	}{
		{"zero", api.Record{}, "\x00\x00\x00\x00"},
		{"a tick", api.Record{Tick: 300}, "\xac\x02\x00\x00\x00"},
		{"the last tick", api.Record{Tick: mostOne}, "\xff\xff\xff\xff\x07\x00\x00\x00"},
		{"an input", api.Record{Inputs: []api.Input{{Kind: 1, A: 2, B: 3, C: 4}}, Codes: []api.Errno{5}}, "\x00\x01\x02\x04\x06\x08\x05\x00\x00"},
		{"negative numbers", api.Record{Inputs: []api.Input{{Kind: -1, A: -2, B: -3, C: -4}}, Codes: []api.Errno{0}}, "\x00\x01\x01\x03\x05\x07\x00\x00\x00"},
		{"the zero input", api.Record{Inputs: []api.Input{{}}, Codes: []api.Errno{0}}, "\x00\x01\x00\x00\x00\x00\x00\x00\x00"},
		{"the least and the largest numbers",
			api.Record{Inputs: []api.Input{{Kind: math.MinInt64, A: math.MaxInt64, B: math.MinInt64 + 1, C: math.MaxInt64 - 1}}, Codes: []api.Errno{255}},
			"\x00\x01" + "\xff\xff\xff\xff\xff\xff\xff\xff\xff\x01" + "\xfe\xff\xff\xff\xff\xff\xff\xff\xff\x01" +
				"\xfd\xff\xff\xff\xff\xff\xff\xff\xff\x01" + "\xfc\xff\xff\xff\xff\xff\xff\xff\xff\x01" + "\xff\x01\x00\x00"},
		{"one way", api.Record{Ways: []int{4}}, "\x00\x00\x01\x04\x00\x00"},
		{"one run", api.Record{Ways: []int{2, 2, 2}}, "\x00\x00\x01\x02\x02\x00"},
		{"one run of Stay", api.Record{Ways: []int{0, 0}}, "\x00\x00\x01\x00\x01\x00"},
		{"several runs", api.Record{Ways: []int{0, 0, 0, 1, 0, 4, 4}}, "\x00\x00\x04\x00\x02\x01\x00\x00\x00\x04\x01\x00"},
		{"each way", api.Record{Ways: []int{0, 1, 2, 3, 4}}, "\x00\x00\x05\x00\x00\x01\x00\x02\x00\x03\x00\x04\x00\x00"},
		{"a run of 129", api.Record{Ways: slices.Repeat([]int{3}, 129)}, "\x00\x00\x01\x03\x80\x01\x00"},
		{"check 1", api.Record{Check: 1}, "\x00\x00\x00\x01"},
		{"the largest check", api.Record{Check: math.MaxUint32}, "\x00\x00\x00\xff\xff\xff\xff\x0f"},
		{"all", api.Record{
			Tick: 7, Inputs: []api.Input{{Kind: 1, A: 2, B: -1, C: 300}, {Kind: 5}}, Codes: []api.Errno{0, 6}, Ways: []int{0, 0, 0, 1, 0}, Check: 5,
		}, "\x07\x02\x02\x04\x01\xd8\x04\x00\x0a\x00\x00\x00\x06\x03\x00\x02\x01\x00\x00\x00\x05"},
	} {
		expectRecord(t, c.name, c.x, []byte(c.want))
	}
	expectRecord(t, "base", baseRecord(), put(recordWords(baseRecord())...))
}

func TestEachNumberOfARecord(t *testing.T) {
	for _, n := range []int{0, 1, 127, 128, mostOne - 1, mostOne} {
		x := baseRecord()
		x.Tick = n
		expectRecord(t, "tick", x, put(recordWords(x)...))
	}
	for _, n := range []int{-1, -2, mostOne + 1, 1 << 32, math.MinInt, math.MaxInt} {
		x := baseRecord()
		x.Tick = n
		refuseRecord(t, "tick", x)
	}
	for i := range baseRecord().Inputs {
		for _, n := range []int{0, 1, -1, 63, 64, -64, -65, mostOne, mostOne + 1, -mostOne - 1, -mostOne - 2, 1 << 32, math.MinInt64, math.MinInt64 + 1, math.MaxInt64 - 1, math.MaxInt64} {
			x := baseRecord()
			in := &x.Inputs[i]
			for _, p := range []*int{&in.Kind, &in.A, &in.B, &in.C} {
				was := *p
				*p = n
				expectRecord(t, "input", x, put(recordWords(x)...))
				*p = was
			}
		}
		for _, n := range []api.Errno{0, 1, 11, 12, 127, 128, 254, 255} {
			x := baseRecord()
			x.Codes[i] = n
			expectRecord(t, "code", x, put(recordWords(x)...))
		}
		for _, n := range []api.Errno{-1, -2, 256, 257, 1 << 32, math.MinInt, math.MaxInt} {
			x := baseRecord()
			x.Codes[i] = n
			refuseRecord(t, "code", x)
		}
	}
	for i := range baseRecord().Ways {
		for n := range 5 {
			x := baseRecord()
			x.Ways[i] = n
			expectRecord(t, "way", x, put(recordWords(x)...))
		}
		for _, n := range []int{-1, -2, 5, 6, 1 << 32, math.MinInt, math.MaxInt} {
			x := baseRecord()
			x.Ways[i] = n
			refuseRecord(t, "way", x)
		}
	}
	for _, n := range []uint32{0, 1, 127, 128, 1 << 31, math.MaxUint32 - 1, math.MaxUint32} {
		x := baseRecord()
		x.Check = n
		expectRecord(t, "check", x, put(recordWords(x)...))
	}
}

func TestCodesAreAsManyAsInputs(t *testing.T) {
	for inputs := range 4 {
		for codes := range 4 {
			x := api.Record{Tick: 1, Inputs: make([]api.Input, inputs), Codes: make([]api.Errno, codes), Ways: []int{1}}
			if inputs == codes {
				expectRecord(t, "as many", x, put(recordWords(x)...))
			} else {
				refuseRecord(t, "not as many", x)
			}
		}
	}
}

func TestManyParts(t *testing.T) {
	const many = 150000
	s := api.State{Tick: 1}
	x := api.Record{Tick: 1}
	for i := range many {
		s.Robots = append(s.Robots, api.Robot{Cell: i, Hold: i % 3})
		s.Tasks = append(s.Tasks, api.Task{Id: i, Robot: i%5 - 1})
		s.Blocked = append(s.Blocked, 3*i+i%2)
		x.Inputs = append(x.Inputs, api.Input{Kind: i, A: -i})
		x.Codes = append(x.Codes, api.Errno(i%256))
	}
	expectState(t, "many", s, put(stateWords(s)...))
	expectRecord(t, "many", x, put(recordWords(x)...))
}

// recordOfRuns returns the encoding of a record with Tick 7, no inputs and Check 5, whose runs are given as they stand.
func recordOfRuns(runs ...uint64) []byte {
	return put(append(append([]uint64{7, 0, uint64(len(runs) / 2)}, runs...), 5)...)
}

// ways returns as many ways, which change after each run of a length.
func ways(many, run int) []int {
	l := make([]int, many)
	for i := range l {
		l[i] = i / run % 5
	}
	return l
}

func TestManyWays(t *testing.T) {
	for _, run := range []int{1, 2, 3, 999, 50000, mostWays - 1, mostWays, mostWays + 1} {
		for _, many := range []int{mostWays - 1, mostWays} {
			x := api.Record{Tick: 7, Ways: ways(many, run), Check: 5}
			expectRecord(t, "ways", x, put(recordWords(x)...))
		}
		for _, many := range []int{mostWays + 1, mostWays + 2, 2*mostWays + 1} {
			x := api.Record{Tick: 7, Ways: ways(many, run), Check: 5}
			want := put(recordWords(x)...)
			if b, e := codec.Record(x); e != api.OK || !bytes.Equal(b, want) {
				t.Errorf("%d ways in runs of %d: they are not encoded: %d", many, run, e)
			}
			refuseRecordBytes(t, "too many ways", want)
		}
	}
}

func TestRuns(t *testing.T) {
	for _, further := range []uint64{
		mostWays, mostWays + 1, mostOne - 1, mostOne, mostOne + 1, mostOne + 2, 1<<32 - 2, 1<<32 - 1, 1 << 32, 1<<32 + 1,
		1<<63 - 2, 1<<63 - 1, 1 << 63, 1<<63 + 1, math.MaxUint64 - mostWays, math.MaxUint64 - 2, math.MaxUint64 - 1, math.MaxUint64,
	} {
		refuseRecordBytes(t, "a long run", recordOfRuns(2, further))
		refuseRecordBytes(t, "a long run first", recordOfRuns(2, further, 3, 0))
		refuseRecordBytes(t, "a long run last", recordOfRuns(1, 0, 2, 3, 3, further))
	}
	for _, runs := range [][]uint64{
		{0, mostWays / 2, 1, mostWays / 2},
		{0, mostWays - 1, 1, 0},
		{0, 0, 1, mostWays - 1},
		{4, mostWays - 2, 3, 0, 4, 0},
		{0, mostWays - 1, 1, mostWays - 1},
		{0, mostWays - 1, 1, math.MaxUint64},
		{0, 0, 1, math.MaxUint64},
		{0, 1, 1, math.MaxUint64 - 1, 2, 0},
	} {
		refuseRecordBytes(t, "too many ways", recordOfRuns(runs...))
	}
	for way := range uint64(5) {
		refuseRecordBytes(t, "two runs of one way", recordOfRuns(way, 0, way, 0))
		refuseRecordBytes(t, "two runs of one way", recordOfRuns(way, 3, way, 1))
		refuseRecordBytes(t, "two runs of one way, later", recordOfRuns((way+1)%5, 1, way, 0, way, 2))
		refuseRecordBytes(t, "two runs of one way, first", recordOfRuns(way, 0, way, 2, (way+1)%5, 1))
		other := (way + 1) % 5
		expectRecord(t, "one way again", api.Record{Tick: 7, Ways: []int{int(way), int(other), int(way)}, Check: 5}, recordOfRuns(way, 0, other, 0, way, 0))
	}
	for _, way := range []uint64{5, 6, 8, 127, 128, 256, 257, 1 << 31, 1 << 32, 1<<32 + 1, 1 << 63, math.MaxUint64} {
		refuseRecordBytes(t, "no way", recordOfRuns(way, 0))
		refuseRecordBytes(t, "no way, later", recordOfRuns(1, 0, way, 0))
	}
}

func TestBytesThatAreNoEncoding(t *testing.T) {
	refuseStateBytes(t, "nil", nil)
	refuseStateBytes(t, "none", []byte{})
	refuseRecordBytes(t, "nil", nil)
	refuseRecordBytes(t, "none", []byte{})
	for _, b := range [][]byte{
		{0}, {0, 0}, {0, 0, 0}, {0, 0, 0, 0, 0}, {0x80}, {0x80, 0, 0, 0, 0}, {0, 0x80, 0, 0, 0}, {0, 0, 0x80, 0, 0}, {0, 0, 0, 0x80, 0},
		{0, 0, 0, 0x80}, bytes.Repeat([]byte{0xff}, 9), bytes.Repeat([]byte{0xff}, 10), bytes.Repeat([]byte{0xff}, 100),
		append(bytes.Repeat([]byte{0xff}, 9), 1, 0, 0, 0), append(bytes.Repeat([]byte{0xff}, 9), 2, 0, 0, 0),
	} {
		refuseStateBytes(t, "bytes", b)
		refuseRecordBytes(t, "bytes", b)
	}
}

func TestBeginningsAndBytesBehind(t *testing.T) {
	for _, s := range []api.State{{}, {Tick: 1 << 20}, {Robots: make([]api.Robot, 2)}, {Blocked: []int{0, 300}}, baseState()} {
		b := put(stateWords(s)...)
		for i := range b {
			refuseStateBytes(t, "a beginning", b[:i])
		}
		for i := range 256 {
			refuseStateBytes(t, "a byte behind", append(bytes.Clone(b), byte(i)))
			refuseStateBytes(t, "two bytes behind", append(bytes.Clone(b), byte(i), 0))
		}
		refuseStateBytes(t, "twice", append(bytes.Clone(b), b...))
	}
	for _, x := range []api.Record{{}, {Tick: 1 << 20}, {Ways: []int{1, 2, 2}}, {Check: 1 << 30}, baseRecord()} {
		b := put(recordWords(x)...)
		for i := range b {
			refuseRecordBytes(t, "a beginning", b[:i])
		}
		for i := range 256 {
			refuseRecordBytes(t, "a byte behind", append(bytes.Clone(b), byte(i)))
			refuseRecordBytes(t, "two bytes behind", append(bytes.Clone(b), byte(i), 0))
		}
		refuseRecordBytes(t, "twice", append(bytes.Clone(b), b...))
	}
}

// kind is what a number of an encoding is.
type kind int

const (
	number kind = iota
	robot
	count
	gap // of blocked cells
	whole
	code
	direction
	length
	check
)

// stateKinds returns what the numbers of the base state are.
func stateKinds() []kind {
	l := []kind{number, count}
	for range 2 * 5 {
		l = append(l, number)
	}
	l = append(l, count)
	for range 3 {
		l = append(l, number, number, number, number, robot)
	}
	return append(l, count, gap, gap, gap, gap)
}

// recordKinds returns what the numbers of the base record are.
func recordKinds() []kind {
	l := []kind{number, count}
	for range 3 {
		l = append(l, whole, whole, whole, whole, code)
	}
	l = append(l, count)
	for range 6 {
		l = append(l, direction, length)
	}
	return append(l, check)
}

// mosts are the greatest numbers of the kinds by themselves.
var mosts = map[kind]uint64{
	number: mostOne, robot: mostOne + 1, whole: math.MaxUint64, code: 255, check: math.MaxUint32,
}

func TestReadNumbersThatAreTooGreat(t *testing.T) {
	words, kinds := stateWords(baseState()), stateKinds()
	if len(words) != len(kinds) {
		t.Fatal(len(words), len(kinds))
	}
	tried := []uint64{0, 127, 128, 255, 256, mostOne - 1, mostOne, mostOne + 1, mostOne + 2, 1<<32 - 1, 1 << 32, 1<<32 + 1, 1<<63 - 1, 1 << 63, math.MaxUint64 - 1, math.MaxUint64}
	for i, k := range kinds {
		most, has := mosts[k]
		for _, n := range tried {
			l := slices.Clone(words)
			l[i] = n
			switch {
			case has && n <= most:
				if u, e := codec.ReadState(put(l...)); e != api.OK || !slices.Equal(stateWords(u), l) {
					t.Errorf("number %d as %d: %v, %d", i, n, u, e)
				}
			case has || n > mostOne:
				refuseStateBytes(t, "too great", put(l...))
			}
		}
	}
	words, kinds = recordWords(baseRecord()), recordKinds()
	if len(words) != len(kinds) {
		t.Fatal(len(words), len(kinds))
	}
	for i, k := range kinds {
		most, has := mosts[k]
		for _, n := range tried {
			l := slices.Clone(words)
			l[i] = n
			switch {
			case has && n <= most:
				if y, e := codec.ReadRecord(put(l...)); e != api.OK || !slices.Equal(recordWords(y), l) {
					t.Errorf("number %d as %d: %v, %d", i, n, y, e)
				}
			case has || n > mostOne:
				refuseRecordBytes(t, "too great", put(l...))
			}
		}
	}
}

func TestReadBlockedCellsThatAreTooGreat(t *testing.T) {
	for _, c := range []struct {
		gaps []uint64
		is   bool
	}{
		{[]uint64{mostOne}, true},
		{[]uint64{mostOne + 1}, false},
		{[]uint64{mostOne, 0}, false},
		{[]uint64{mostOne, mostOne}, false},
		{[]uint64{mostOne - 1, 0}, true},
		{[]uint64{mostOne - 1, 1}, false},
		{[]uint64{mostOne - 1, 0, 0}, false},
		{[]uint64{0, mostOne - 1}, true},
		{[]uint64{0, mostOne}, false},
		{[]uint64{0, mostOne + 1}, false},
		{[]uint64{1, mostOne - 2}, true},
		{[]uint64{1, mostOne - 1}, false},
		{[]uint64{5, math.MaxUint64}, false},
		{[]uint64{5, math.MaxUint64 - 5}, false},
		{[]uint64{5, math.MaxUint64 - 6}, false},
		{[]uint64{5, 1<<32 - 6}, false},
		{[]uint64{5, 1<<32 - 1}, false},
		{[]uint64{math.MaxUint64}, false},
		{[]uint64{math.MaxUint64, 0}, false},
		{[]uint64{1 << 63, 1 << 63}, false},
	} {
		words := append([]uint64{9, 0, 0, uint64(len(c.gaps))}, c.gaps...)
		if !c.is {
			refuseStateBytes(t, "blocked", put(words...))
			continue
		}
		if u, e := codec.ReadState(put(words...)); e != api.OK || !slices.Equal(stateWords(u), words) {
			t.Errorf("gaps %v: %v, %d", c.gaps, u, e)
		}
	}
}

func TestReadCountsThatAreTooGreat(t *testing.T) {
	counts := []uint64{1, 2, 5, 127, 1000, 1 << 20, mostWays, mostWays + 1, mostOne, mostOne + 1, 1 << 32, 1<<32 + 1, 1<<63 - 1, 1 << 63, 1<<63 + 1, math.MaxUint64 - 1, math.MaxUint64}
	for _, n := range counts {
		for _, l := range [][]uint64{
			{0, n}, {0, n, 0}, {0, n, 0, 0}, {0, 0, n}, {0, 0, n, 0}, {0, 0, 0, n},
		} {
			refuseStateBytes(t, "a count", put(l...))
		}
		for _, l := range [][]uint64{{0, n}, {0, n, 0}, {0, n, 0, 0}, {0, 0, n}, {0, 0, n, 0}} {
			refuseRecordBytes(t, "a count", put(l...))
		}
	}
	stateBase, recordBase := stateWords(baseState()), recordWords(baseRecord())
	for _, n := range append(counts, 3, 4, 6, 7) {
		for i, k := range stateKinds() {
			if k == count && n > stateBase[i] {
				l := slices.Clone(stateBase)
				l[i] = n
				// The bytes behind may be taken for a count's parts, but then there are not enough for the rest.
				refuseStateBytes(t, "a count", put(l...))
			}
		}
		for i, k := range recordKinds() {
			if k == count && n > recordBase[i] {
				l := slices.Clone(recordBase)
				l[i] = n
				refuseRecordBytes(t, "a count", put(l...))
			}
		}
	}
}

// longer returns the encodings of numbers, of which that at i has a byte more than it needs.
func longer(l []uint64, i int) []byte {
	b := put(l[:i]...)
	one := put(l[i])
	one[len(one)-1] |= 128
	return append(append(append(b, one...), 0), put(l[i+1:]...)...)
}

func TestReadNumbersInALongerForm(t *testing.T) {
	for _, words := range [][]uint64{{0, 0, 0, 0}, stateWords(baseState())} {
		for i := range words {
			refuseStateBytes(t, "longer", longer(words, i))
		}
	}
	for _, words := range [][]uint64{{0, 0, 0, 0}, recordWords(baseRecord())} {
		for i := range words {
			refuseRecordBytes(t, "longer", longer(words, i))
		}
	}
}

// takeAll is the test's own reader of numbers: it returns those that bytes consist of, if each has its one encoding.
func takeAll(b []byte) ([]uint64, bool) {
	var l []uint64
	for len(b) > 0 {
		n, size := binary.Uvarint(b)
		if size <= 0 || !bytes.Equal(put(n), b[:size]) {
			return nil, false
		}
		l = append(l, n)
		b = b[size:]
	}
	return l, true
}

// judgeState is the test's own opinion on whether bytes are a state's encoding.
func judgeState(b []byte) (api.State, bool) {
	l, is := takeAll(b)
	at := 0
	next := func(most uint64) int {
		at++
		if !is || at > len(l) || l[at-1] > most {
			is = false
			return 0
		}
		return int(l[at-1])
	}
	var s api.State
	s.Tick = next(mostOne)
	for i := next(mostOne); is && i > 0; i-- {
		s.Robots = append(s.Robots, api.Robot{Cell: next(mostOne), Mode: next(mostOne), Task: next(mostOne), Battery: next(mostOne), Hold: next(mostOne)})
	}
	for i := next(mostOne); is && i > 0; i-- {
		s.Tasks = append(s.Tasks, api.Task{Id: next(mostOne), From: next(mostOne), To: next(mostOne), State: next(mostOne), Robot: next(mostOne+1) - 1})
	}
	sum := -1
	for i := next(mostOne); is && i > 0; i-- {
		sum += 1 + next(mostOne)
		is = is && sum <= mostOne
		s.Blocked = append(s.Blocked, sum)
	}
	if !is || at != len(l) {
		return api.State{}, false
	}
	return s, true
}

// judgeRecord is the test's own opinion on whether bytes are the encoding of a record with at most mostWays Ways.
func judgeRecord(b []byte) (api.Record, bool) {
	l, is := takeAll(b)
	at := 0
	next := func(most uint64) uint64 {
		at++
		if !is || at > len(l) || l[at-1] > most {
			is = false
			return 0
		}
		return l[at-1]
	}
	half := func() int {
		z := next(math.MaxUint64)
		return int(z>>1) ^ -int(z&1)
	}
	var x api.Record
	x.Tick = int(next(mostOne))
	for i := next(mostOne); is && i > 0; i-- {
		x.Inputs = append(x.Inputs, api.Input{Kind: half(), A: half(), B: half(), C: half()})
		x.Codes = append(x.Codes, api.Errno(next(255)))
	}
	last := -1
	for i := next(mostOne); is && i > 0; i-- {
		way := int(next(4))
		run := int(next(mostWays-1)) + 1
		is = is && way != last && len(x.Ways)+run <= mostWays
		if is {
			x.Ways = append(x.Ways, slices.Repeat([]int{way}, run)...)
		}
		last = way
	}
	x.Check = uint32(next(math.MaxUint32))
	if !is || at != len(l) {
		return api.Record{}, false
	}
	return x, true
}

// expectJudged reports bytes that are read other than the test's own readers do, and what is read that has another
// encoding. It returns whether they are a state and a record.
func expectJudged(t *testing.T, b []byte) (bool, bool) {
	t.Helper()
	wantState, isState := judgeState(b)
	if s, e := codec.ReadState(b); (e == api.OK) != isState || e != api.OK && e != api.ErrForm || !sameState(s, wantState) {
		t.Fatalf("ReadState(%v) = %v, %d, want %v, %t", b, s, e, wantState, isState)
	}
	if isState {
		if c, e := codec.State(wantState); e != api.OK || !bytes.Equal(b, c) {
			t.Fatalf("%v is read as %v, whose encoding is %v, %d", b, wantState, c, e)
		}
	}
	wantRecord, isRecord := judgeRecord(b)
	if x, e := codec.ReadRecord(b); (e == api.OK) != isRecord || e != api.OK && e != api.ErrForm || !sameRecord(x, wantRecord) {
		t.Fatalf("ReadRecord(%v) = %v, %d, want %v, %t", b, x, e, wantRecord, isRecord)
	}
	if isRecord {
		if c, e := codec.Record(wantRecord); e != api.OK || !bytes.Equal(b, c) {
			t.Fatalf("%v is read as %v, whose encoding is %v, %d", b, wantRecord, c, e)
		}
	}
	return isState, isRecord
}

// TestAllShortBytes reads all strings of a few letters up to a length.
func TestAllShortBytes(t *testing.T) {
	for _, c := range []struct {
		letters string
		longest int
	}{
		{"\x00\x01", 15},
		{"\x00\x01\x02", 9},
		{"\x00\x01\x80", 9},
		{"\x00\x01\x02\x04\x05\x80\xff", 6},
	} {
		states, records := 0, 0
		b := make([]byte, 0, c.longest)
		var longer func()
		longer = func() {
			isState, isRecord := expectJudged(t, b)
			if isState {
				states++
			}
			if isRecord {
				records++
			}
			if len(b) == c.longest {
				return
			}
			for _, letter := range []byte(c.letters) {
				b = append(b, letter)
				longer()
				b = b[:len(b)-1]
			}
		}
		longer()
		if states < 10 || records < 10 {
			t.Errorf("letters %q: only %d states and %d records", c.letters, states, records)
		}
	}
}

// chosenNumber returns a number from 0 to 2^31 - 1 of any length.
func chosenNumber(r *rand.Rand) int { return r.Intn(mostOne+1) >> r.Intn(32) }

func chosenState(r *rand.Rand) api.State {
	s := api.State{Tick: chosenNumber(r)}
	for range r.Intn(5) {
		s.Robots = append(s.Robots, api.Robot{Cell: chosenNumber(r), Mode: chosenNumber(r), Task: chosenNumber(r), Battery: chosenNumber(r), Hold: chosenNumber(r)})
	}
	for range r.Intn(5) {
		s.Tasks = append(s.Tasks, api.Task{Id: chosenNumber(r), From: chosenNumber(r), To: chosenNumber(r), State: chosenNumber(r), Robot: chosenNumber(r) - r.Intn(2)})
	}
	for range r.Intn(5) {
		s.Blocked = append(s.Blocked, chosenNumber(r))
	}
	slices.Sort(s.Blocked)
	s.Blocked = slices.Compact(s.Blocked)
	return s
}

func chosenRecord(r *rand.Rand) api.Record {
	x := api.Record{Tick: chosenNumber(r), Check: r.Uint32() >> r.Intn(32)}
	some := func() int { return int(r.Uint64()) >> r.Intn(64) }
	for range r.Intn(5) {
		x.Inputs = append(x.Inputs, api.Input{Kind: some(), A: some(), B: some(), C: some()})
		x.Codes = append(x.Codes, api.Errno(r.Intn(256)))
	}
	for range r.Intn(8) {
		x.Ways = append(x.Ways, slices.Repeat([]int{r.Intn(5)}, r.Intn(1+r.Intn(200)))...)
	}
	return x
}

func TestReadingReturnsWhatWasEncoded(t *testing.T) {
	r := rand.New(rand.NewSource(7))
	for range 5000 {
		s := chosenState(r)
		expectState(t, "chosen", s, put(stateWords(s)...))
		x := chosenRecord(r)
		expectRecord(t, "chosen", x, put(recordWords(x)...))
	}
}

func TestOtherBytesAreNotReadAsTheSame(t *testing.T) {
	states, records := put(stateWords(baseState())...), put(recordWords(baseRecord())...)
	for _, b := range [][]byte{states, records, {0, 0, 0, 0}} {
		for i := range b {
			for n := range 256 {
				c := bytes.Clone(b)
				c[i] = byte(n)
				expectJudged(t, c)
				expectJudged(t, slices.Insert(bytes.Clone(b), i, byte(n)))
			}
			expectJudged(t, slices.Delete(bytes.Clone(b), i, i+1))
		}
	}
	r := rand.New(rand.NewSource(8))
	for range 5000 {
		b, e := codec.State(chosenState(r))
		if r.Intn(2) == 0 {
			b, e = codec.Record(chosenRecord(r))
		}
		if e != api.OK {
			t.Fatal(e)
		}
		for range 1 + r.Intn(3) {
			b[r.Intn(len(b))] = byte(r.Intn(256)) >> r.Intn(8)
		}
		expectJudged(t, b)
	}
}

// TestDifferentOnesHaveDifferentEncodings encodes many small states and records, so many that each comes several times.
func TestDifferentOnesHaveDifferentEncodings(t *testing.T) {
	r := rand.New(rand.NewSource(9))
	states, records := map[string]api.State{}, map[string]api.Record{}
	for range 20000 {
		s := api.State{Tick: r.Intn(2), Robots: make([]api.Robot, r.Intn(2)), Tasks: make([]api.Task, r.Intn(2))}
		for i := range s.Robots {
			s.Robots[i].Cell, s.Robots[i].Hold = r.Intn(2), r.Intn(2)
		}
		for i := range s.Tasks {
			s.Tasks[i].To, s.Tasks[i].Robot = r.Intn(2), r.Intn(3)-1
		}
		for cell := range 4 {
			if r.Intn(2) == 0 {
				s.Blocked = append(s.Blocked, cell)
			}
		}
		b, _ := codec.State(s)
		if u, is := states[string(b)]; is && !sameState(s, u) {
			t.Fatalf("%v and %v have one encoding", s, u)
		}
		states[string(b)] = s
		x := api.Record{Tick: r.Intn(2), Inputs: make([]api.Input, r.Intn(3)), Check: uint32(r.Intn(2))}
		x.Codes = make([]api.Errno, len(x.Inputs))
		for i := range x.Inputs {
			x.Inputs[i].Kind, x.Inputs[i].C, x.Codes[i] = r.Intn(3)-1, r.Intn(3)-1, api.Errno(r.Intn(2))
		}
		for range r.Intn(6) {
			x.Ways = append(x.Ways, r.Intn(2))
		}
		b, _ = codec.Record(x)
		if y, is := records[string(b)]; is && !sameRecord(x, y) {
			t.Fatalf("%v and %v have one encoding", x, y)
		}
		records[string(b)] = x
	}
}

func TestEmptySlicesAreLikeNil(t *testing.T) {
	expectState(t, "empty", api.State{Tick: 3, Robots: []api.Robot{}, Tasks: []api.Task{}, Blocked: []int{}}, []byte{3, 0, 0, 0})
	expectRecord(t, "empty", api.Record{Tick: 3, Inputs: []api.Input{}, Codes: []api.Errno{}, Ways: []int{}}, []byte{3, 0, 0, 0})
	expectRecord(t, "nil and empty", api.Record{Inputs: []api.Input{}, Ways: []int{}}, []byte{0, 0, 0, 0})
}

func TestResultsShareNothing(t *testing.T) {
	s, x := baseState(), baseRecord()
	b, _ := codec.State(s)
	c, _ := codec.Record(x)
	wasB, wasC := bytes.Clone(b), bytes.Clone(c)
	u, _ := codec.ReadState(b)
	y, _ := codec.ReadRecord(c)
	clear(b)
	clear(c)
	if !sameState(u, baseState()) || !sameRecord(y, baseRecord()) {
		t.Error("what was read changed with the bytes")
	}
	other, _ := codec.ReadState(wasB)
	another, _ := codec.ReadRecord(wasC)
	clear(u.Robots)
	clear(u.Tasks)
	clear(u.Blocked)
	clear(y.Inputs)
	clear(y.Codes)
	clear(y.Ways)
	if !sameState(other, baseState()) || !sameRecord(another, baseRecord()) {
		t.Error("what was read changed with what was read before")
	}
	if !sameState(s, baseState()) || !sameRecord(x, baseRecord()) {
		t.Error("the arguments changed")
	}
	if d, _ := codec.State(s); !bytes.Equal(d, wasB) {
		t.Error("an encoding changed with another one")
	}
	if d, _ := codec.Record(x); !bytes.Equal(d, wasC) {
		t.Error("an encoding changed with another one")
	}
}

func TestBytesBehindTheLengthAreNotRead(t *testing.T) {
	b := put(stateWords(baseState())...)
	refuseStateBytes(t, "a shorter slice", b[:len(b)-1])
	expectState(t, "a shorter slice", baseState(), append(b, 1, 2, 3)[:len(b)])
	c := put(recordWords(baseRecord())...)
	refuseRecordBytes(t, "a shorter slice", c[:len(c)-1])
	expectRecord(t, "a shorter slice", baseRecord(), append(c, 1, 2, 3)[:len(c)])
}

func TestCallsAtTheSameTime(t *testing.T) {
	s, x := baseState(), baseRecord()
	b, c := put(stateWords(s)...), put(recordWords(x)...)
	var all sync.WaitGroup
	for range 8 {
		all.Go(func() {
			for range 200 {
				d, e := codec.State(s)
				f, e2 := codec.Record(x)
				if e != api.OK || e2 != api.OK || !bytes.Equal(d, b) || !bytes.Equal(f, c) || codec.Digest(s) != crc32.ChecksumIEEE(b) {
					t.Error("an encoding differs")
					return
				}
				u, e := codec.ReadState(b)
				y, e2 := codec.ReadRecord(c)
				if e != api.OK || e2 != api.OK || !sameState(u, s) || !sameRecord(y, x) {
					t.Error("what is read differs")
					return
				}
				if _, e := codec.ReadState(b[:len(b)-1]); e != api.ErrForm {
					t.Error("the error of a beginning differs")
					return
				}
			}
		})
	}
	all.Wait()
}

func TestImports(t *testing.T) {
	f, err := parser.ParseFile(token.NewFileSet(), "codec.go", nil, parser.ImportsOnly)
	if err != nil {
		t.Fatal(err)
	}
	for _, i := range f.Imports {
		if !slices.Contains([]string{`"math"`, `"tugger/api"`, `"tugger/frame"`, `"tugger/varint"`}, i.Path.Value) {
			t.Error("codec imports", i.Path.Value)
		}
	}
}

// great returns a state with as much of all as a valid one can have.
func great() api.State {
	s := api.State{Tick: mostOne}
	for i := range api.MostRobots {
		s.Robots = append(s.Robots, api.Robot{Cell: i, Mode: api.Fetching, Task: i, Battery: api.MostBattery, Hold: api.MostHold})
	}
	for i := range api.MostTasks {
		s.Tasks = append(s.Tasks, api.Task{Id: mostOne - i, From: i, To: i + 1, State: api.Taken, Robot: i})
	}
	for i := range api.MostSide * api.MostSide {
		s.Blocked = append(s.Blocked, i)
	}
	return s
}

func BenchmarkDigestOfTheGreatestState(b *testing.B) {
	s := great()
	for b.Loop() {
		codec.Digest(s)
	}
}

func BenchmarkReadTheGreatestState(b *testing.B) {
	c, _ := codec.State(great())
	for b.Loop() {
		codec.ReadState(c)
	}
}
