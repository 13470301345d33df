package journal_test

import (
	"bytes"
	"encoding/binary"
	"fmt"
	"go/parser"
	"go/token"
	"hash/crc32"
	"maps"
	"math"
	"math/rand"
	"reflect"
	"slices"
	"strings"
	"sync"
	"testing"

	"tugger/api"
	"tugger/codec"
	"tugger/disk"
	"tugger/frame"
	"tugger/journal"
	"tugger/segment"
)

const (
	mostRoom   = 1 << 24
	mostTick   = 1<<31 - 1
	mostFramed = 1000000
)

// put returns the encodings of numbers by the library's means.
func put(l ...int) []byte {
	var b []byte
	for _, n := range l {
		b = binary.AppendUvarint(b, uint64(n))
	}
	return b
}

// framed returns the frame of bytes by the library's means.
func framed(b []byte) []byte {
	return binary.LittleEndian.AppendUint32(append(put(len(b)), b...), crc32.ChecksumIEEE(b))
}

// manifest returns the encoding of a manifest.
func manifest(segs, snaps []int) []byte {
	var l []int
	for _, list := range [][]int{segs, snaps} {
		l = append(l, len(list))
		for i, n := range list {
			if i > 0 {
				n -= list[i-1] + 1
			}
			l = append(l, n)
		}
	}
	return framed(put(l...))
}

func head(first int) []byte { return framed(put(7, first)) }

// record returns the frame of a record, which must have an encoding.
func record(x api.Record) []byte {
	b, e := codec.Record(x)
	if e != api.OK {
		panic(fmt.Sprint("no encoding of ", x))
	}
	return framed(b)
}

// snapshot returns the frame of a state, which must have an encoding.
func snapshot(s api.State) []byte {
	b, e := codec.State(s)
	if e != api.OK {
		panic(fmt.Sprint("no encoding of ", s))
	}
	return framed(b)
}

func segName(tick int) string  { return fmt.Sprintf("seg-%010d", tick) }
func snapName(tick int) string { return fmt.Sprintf("snap-%010d", tick) }

// rec returns a record with all parts.
func rec(tick int) api.Record {
	return api.Record{Tick: tick, Inputs: []api.Input{{Kind: api.Order, A: tick, B: -1, C: 300}, {Kind: api.Clear}},
		Codes: []api.Errno{api.ErrName, api.OK}, Ways: []int{tick % 5, 0, 0, 4}, Check: uint32(tick) * 2654435761}
}

// at returns a state with all parts.
func at(tick int) api.State {
	return api.State{Tick: tick, Robots: []api.Robot{{Cell: tick % 7, Battery: 1000}, {Cell: 300, Mode: api.Charging, Hold: 2}},
		Tasks: []api.Task{{Id: 7, From: 1, To: 2, State: api.Waiting, Robot: -1}}, Blocked: []int{3, tick%7 + 4}}
}

// noRecords are those without an encoding, each with a tick.
func noRecords(tick int) []api.Record {
	return []api.Record{{Tick: tick, Codes: []api.Errno{api.OK}}, {Tick: tick, Inputs: make([]api.Input, 1)},
		{Tick: tick, Ways: []int{5}}, {Tick: tick, Ways: []int{0, -1}}, {Tick: tick, Inputs: make([]api.Input, 1), Codes: []api.Errno{256}},
		{Tick: tick, Inputs: make([]api.Input, 1), Codes: []api.Errno{-1}}}
}

// noStates are those without an encoding, each with a tick.
func noStates(tick int) []api.State {
	return []api.State{{Tick: tick, Blocked: []int{2, 2}}, {Tick: tick, Blocked: []int{-1}}, {Tick: tick, Robots: []api.Robot{{Hold: -1}}},
		{Tick: tick, Robots: []api.Robot{{Cell: mostTick + 1}}}, {Tick: tick, Tasks: []api.Task{{Robot: -2}}}}
}

// brief says what a value is in a few words.
func brief(v any) string {
	s := fmt.Sprintf("%v", v)
	if len(s) > 2000 {
		return s[:2000] + ".."
	}
	return s
}

// expect reports an error other than the wanted one.
func expect(t testing.TB, name string, e, want api.Errno) {
	t.Helper()
	if e != want {
		t.Errorf("%s: error %d, want %d", name, e, want)
	}
}

// files is what a disk has, by name.
type files map[string][]byte

// disk returns a disk that has the files, with all their bytes durable.
func (l files) disk(t testing.TB) *disk.Disk {
	t.Helper()
	d, _ := disk.New(mostRoom)
	for name, b := range l {
		expect(t, "Append", d.Append(name, b), api.OK)
		expect(t, "Sync", d.Sync(name), api.OK)
	}
	return d
}

// on returns the files of a disk.
func on(d *disk.Disk) files {
	l := files{}
	for _, name := range d.List() {
		l[name], _ = d.Read(name)
	}
	return l
}

func (l files) same(o files) bool { return maps.EqualFunc(l, o, bytes.Equal) }

func (l files) clone() files {
	o := files{}
	for name, b := range l {
		o[name] = bytes.Clone(b)
	}
	return o
}

// names returns the names of the files.
func (l files) names() []string { return slices.Sorted(maps.Keys(l)) }

// expectFiles reports files of a disk other than the wanted ones.
func expectFiles(t testing.TB, name string, d *disk.Disk, want files) {
	t.Helper()
	if is := on(d); !is.same(want) {
		t.Errorf("%s: the disk has %s, want %s", name, brief(map[string][]byte(is)), brief(map[string][]byte(want)))
	}
}

// expectDurable reports what a disk has after a crash other than the wanted files.
func expectDurable(t testing.TB, name string, d *disk.Disk, want files) {
	t.Helper()
	expectFiles(t, name, d, want)
	d.Crash(nil)
	expectFiles(t, name+", after a crash", d, want)
}

// store is what a journal can do, and the test's own journal, too.
type store interface {
	Append(x api.Record) api.Errno
	Snap(s api.State) api.Errno
	Retain(keep int) api.Errno
	Next() int
	Manifest() segment.Manifest
	Records() []api.Record
	Snaps() []api.State
}

var _ store = (*journal.Journal)(nil)

// show returns all that can be asked of a journal.
func show(j store) string {
	return fmt.Sprintf("next %d, manifest %v, records %v, snaps %v", j.Next(), j.Manifest(), j.Records(), j.Snaps())
}

// piece is a segment of the test's own journal.
type piece struct {
	first   int
	records []api.Record
}

// judged is the test's own journal.
type judged struct {
	d      *disk.Disk
	per    int
	segs   []piece
	snaps  []api.State
	broken bool
}

// turn is an operation of a disk, or something that holds from then on.
type turn func() api.Errno

// take takes one turn after the other.
func (j *judged) take(lists ...[]turn) api.Errno {
	for _, do := range slices.Concat(lists...) {
		if e := do(); e != api.OK {
			if e != api.ErrFull {
				j.broken = true
			}
			return e
		}
	}
	return api.OK
}

func (j *judged) writing(name string, b []byte) []turn {
	return []turn{
		func() api.Errno {
			if slices.Contains(j.d.List(), name) {
				return j.d.Delete(name)
			}
			return api.OK
		},
		func() api.Errno { return j.d.Append(name, b) },
		func() api.Errno { return j.d.Sync(name) },
	}
}

func ticks(segs []piece, snaps []api.State) (a, b []int) {
	for _, p := range segs {
		a = append(a, p.first)
	}
	for _, s := range snaps {
		b = append(b, s.Tick)
	}
	return a, b
}

func (j *judged) listing(segs []piece, snaps []api.State) []turn {
	return append(j.writing("new", manifest(ticks(segs, snaps))),
		func() api.Errno { return j.d.Rename("new", "manifest") },
		func() api.Errno { j.segs, j.snaps = segs, snaps; return api.OK })
}

func (j *judged) Append(x api.Record) api.Errno {
	if j.broken {
		return api.ErrDown
	}
	if _, e := codec.Record(x); e != api.OK {
		return e
	}
	if x.Tick != j.Next() {
		return api.ErrGap
	}
	var first []turn
	if n := len(j.segs); n == 0 || len(j.segs[n-1].records) >= j.per {
		first = append(j.writing(segName(x.Tick), head(x.Tick)),
			j.listing(append(slices.Clone(j.segs), piece{first: x.Tick}), j.snaps)...)
	}
	return j.take(first, []turn{
		func() api.Errno { return j.d.Append(segName(j.segs[len(j.segs)-1].first), record(x)) },
		func() api.Errno { return j.d.Sync(segName(j.segs[len(j.segs)-1].first)) },
		func() api.Errno {
			segs := slices.Clone(j.segs)
			last := &segs[len(segs)-1]
			last.records = append(slices.Clone(last.records), x)
			j.segs = segs
			return api.OK
		},
	})
}

func (j *judged) Snap(s api.State) api.Errno {
	if j.broken {
		return api.ErrDown
	}
	if _, e := codec.State(s); e != api.OK {
		return e
	}
	if s.Tick != j.Next() {
		return api.ErrGap
	}
	if slices.ContainsFunc(j.snaps, func(o api.State) bool { return o.Tick == s.Tick }) {
		return api.ErrTwice
	}
	return j.take(j.writing(snapName(s.Tick), snapshot(s)), j.listing(j.segs, append(slices.Clone(j.snaps), s)))
}

func (j *judged) Retain(keep int) api.Errno {
	switch {
	case j.broken:
		return api.ErrDown
	case keep < 1:
		return api.ErrArg
	case len(j.snaps) <= keep:
		return api.OK
	}
	var snaps []api.State
	var segs []piece
	var gone []turn
	leave := func(name string) { gone = append(gone, func() api.Errno { return j.d.Delete(name) }) }
	for i, s := range j.snaps {
		if len(j.snaps)-i <= keep {
			snaps = append(snaps, s)
		} else {
			leave(snapName(s.Tick))
		}
	}
	for i, p := range j.segs {
		if slices.ContainsFunc(j.segs[i+1:], func(o piece) bool { return o.first <= snaps[0].Tick }) {
			leave(segName(p.first))
		} else {
			segs = append(segs, p)
		}
	}
	return j.take(j.listing(segs, snaps), gone)
}

func (j *judged) Next() int {
	if l := j.Records(); len(l) > 0 {
		return l[len(l)-1].Tick + 1
	}
	return j.snaps[len(j.snaps)-1].Tick
}

func (j *judged) Manifest() segment.Manifest {
	segs, snaps := ticks(j.segs, j.snaps)
	return segment.Manifest{Segs: segs, Snaps: snaps}
}

func (j *judged) Records() []api.Record {
	var l []api.Record
	for _, p := range j.segs {
		l = append(l, p.records...)
	}
	return l
}

func (j *judged) Snaps() []api.State { return j.snaps }

func judgeStart(d *disk.Disk, s api.State, per int) (*judged, api.Errno) {
	if d == nil || per < 1 || per > 1000 {
		return nil, api.ErrArg
	}
	if _, e := codec.State(s); e != api.OK {
		return nil, e
	}
	if slices.Contains(d.List(), "manifest") {
		return nil, api.ErrTwice
	}
	j := &judged{d: d, per: per}
	return j, j.take(j.writing(snapName(s.Tick), snapshot(s)), j.listing(nil, []api.State{s}))
}

// judgeSum reports whether Open returns ErrSum. Otherwise it lays what there is into j.
func judgeSum(j *judged, torn *[]byte) bool {
	l := on(j.d)
	m, e := segment.Read(l["manifest"])
	if e != api.OK || len(m.Snaps) == 0 {
		return true
	}
	for _, tick := range m.Snaps {
		frames, _, rest := frame.Scan(l[snapName(tick)])
		if len(frames) != 1 || rest != frame.Whole {
			return true
		}
		s, e := codec.ReadState(frames[0])
		if e != api.OK || s.Tick != tick {
			return true
		}
		j.snaps = append(j.snaps, s)
	}
	next := -1
	for i, tick := range m.Segs {
		first, records, size, rest, e := segment.Parse(l[segName(tick)])
		last := i == len(m.Segs)-1
		if e != api.OK || first != tick || rest == frame.Bad || rest == frame.Torn && !last || i > 0 && first != next {
			return true
		}
		if rest == frame.Torn {
			*torn = l[segName(tick)][:size]
		}
		next = first + len(records)
		j.segs = append(j.segs, piece{first, records})
	}
	return len(m.Segs) > 0 && m.Segs[0] > m.Snaps[0] || len(m.Segs) == 0 && len(m.Snaps) > 1 ||
		slices.ContainsFunc(m.Snaps, func(tick int) bool { return tick > j.Next() })
}

func judgeOpen(d *disk.Disk, per int) (*judged, api.Errno) {
	if d == nil || per < 1 || per > 1000 {
		return nil, api.ErrArg
	}
	if !slices.Contains(d.List(), "manifest") {
		return nil, api.ErrName
	}
	j := &judged{d: d, per: per}
	var torn []byte
	if judgeSum(j, &torn) {
		return nil, api.ErrSum
	}
	var first, then []turn
	own := []string{"manifest"}
	for _, p := range j.segs {
		own = append(own, segName(p.first))
	}
	if torn != nil {
		last := own[len(own)-1]
		first = append(j.writing("cut", torn), func() api.Errno { return d.Rename("cut", last) })
	}
	for _, s := range j.snaps {
		own = append(own, snapName(s.Tick))
	}
	for _, name := range d.List() {
		// A file cut that was there before has been renamed by then.
		if !slices.Contains(own, name) && !(name == "cut" && torn != nil) {
			then = append(then, func() api.Errno { return d.Delete(name) })
		}
	}
	return j, j.take(first, then)
}

// pair is a journal and the test's own, each on a disk of its own. The same is done to both.
type pair struct {
	t     *testing.T
	d, o  *disk.Disk
	j     store
	own   store
	done  []string
	quiet bool // nothing is said any more
}

func newPair(t *testing.T) *pair {
	p := &pair{t: t}
	p.d, _ = disk.New(mostRoom)
	p.o, _ = disk.New(mostRoom)
	return p
}

func (p *pair) fail(format string, l ...any) {
	p.t.Helper()
	if !p.quiet {
		p.t.Errorf("%s: %s", strings.Join(p.done, ", "), fmt.Sprintf(format, l...))
	}
	p.quiet = true
}

// compare reports where the two differ.
func (p *pair) compare(e, want api.Errno) {
	p.t.Helper()
	if e != want {
		p.fail("error %d, want %d", e, want)
	}
	if (p.j == nil) != (p.own == nil) {
		p.fail("one of the journals is nil")
	}
	if is, want := on(p.d), on(p.o); !is.same(want) {
		p.fail("the disk has %s, want %s", brief(map[string][]byte(is)), brief(map[string][]byte(want)))
	}
	if p.j != nil && p.own != nil {
		if is, want := show(p.j), show(p.own); is != want {
			p.fail("%s, want %s", brief(is), brief(want))
		}
	}
}

// both does the same to both disks.
func (p *pair) both(name string, do func(d *disk.Disk)) {
	p.t.Helper()
	p.done = append(p.done, name)
	do(p.d)
	do(p.o)
	p.compare(api.OK, api.OK)
}

func (p *pair) fuse(n int) {
	p.t.Helper()
	p.both(fmt.Sprintf("Fuse(%d)", n), func(d *disk.Disk) { d.Fuse(n) })
}

func (p *pair) room(left int) {
	p.t.Helper()
	p.both(fmt.Sprintf("%d left", left), func(d *disk.Disk) { d.Room(used(d) + left) })
}

func (p *pair) crash(kept ...int) {
	p.t.Helper()
	p.both(fmt.Sprintf("Crash(%d)", kept), func(d *disk.Disk) { d.Crash(kept) })
}

func (p *pair) file(name string, b []byte) {
	p.t.Helper()
	p.both(fmt.Sprintf("file %s with %d bytes", name, len(b)), func(d *disk.Disk) {
		d.Delete(name)
		d.Append(name, b)
		d.Sync(name)
	})
}

// used returns how many bytes the files of a disk have.
func used(d *disk.Disk) int {
	n := 0
	for _, b := range on(d) {
		n += len(b)
	}
	return n
}

func (p *pair) start(s api.State, per int) api.Errno {
	p.t.Helper()
	p.done = append(p.done, fmt.Sprintf("Start(%d, %d)", s.Tick, per))
	j, e := journal.Start(p.d, s, per)
	own, want := judgeStart(p.o, s, per)
	p.set(j, own, e, want)
	return want
}

func (p *pair) open(per int) api.Errno {
	p.t.Helper()
	p.done = append(p.done, fmt.Sprintf("Open(%d)", per))
	j, e := journal.Open(p.d, per)
	own, want := judgeOpen(p.o, per)
	p.set(j, own, e, want)
	return want
}

// set takes what Start or Open answers. Beside an error there is no journal.
func (p *pair) set(j *journal.Journal, own *judged, e, want api.Errno) {
	p.t.Helper()
	p.j, p.own = nil, nil
	if j != nil {
		p.j = j
	}
	if want == api.OK {
		p.own = own
	}
	p.compare(e, want)
}

// deed is something that is done to a journal, and its name.
type deed struct {
	name string
	do   func(j store) api.Errno
}

func appending(tick int) deed {
	return deed{fmt.Sprintf("Append(%d)", tick), func(j store) api.Errno { return j.Append(rec(tick)) }}
}

func snapping(tick int) deed {
	return deed{fmt.Sprintf("Snap(%d)", tick), func(j store) api.Errno { return j.Snap(at(tick)) }}
}

func retaining(keep int) deed {
	return deed{fmt.Sprintf("Retain(%d)", keep), func(j store) api.Errno { return j.Retain(keep) }}
}

// do does deeds to both, and returns the error of the last one.
func (p *pair) do(l ...deed) api.Errno {
	p.t.Helper()
	var want api.Errno
	for _, x := range l {
		p.done = append(p.done, x.name)
		var e api.Errno
		e, want = x.do(p.j), x.do(p.own)
		p.compare(e, want)
	}
	return want
}

// ready are deeds after which a journal that was started at tick 4 has, with two records a segment, the snapshots 4, 6,
// 7 and 9 and the segments 4, 6 and 8 with the records 4 to 8.
func ready() []deed {
	return []deed{appending(4), appending(5), snapping(6), appending(6), snapping(7), appending(7), appending(8), snapping(9)}
}

// begun returns a journal on a disk after some deeds, which must succeed.
func begun(t testing.TB, tick, per int, l ...deed) (*disk.Disk, *journal.Journal) {
	t.Helper()
	d, _ := disk.New(mostRoom)
	j, e := journal.Start(d, at(tick), per)
	if e != api.OK || j == nil {
		t.Fatalf("Start: error %d", e)
	}
	for _, x := range l {
		expect(t, x.name, x.do(j), api.OK)
	}
	return d, j
}

// whole are the files of the journal that is ready.
func whole() files {
	return files{
		"manifest":        manifest([]int{4, 6, 8}, []int{4, 6, 7, 9}),
		"seg-0000000004":  slices.Concat(head(4), record(rec(4)), record(rec(5))),
		"seg-0000000006":  slices.Concat(head(6), record(rec(6)), record(rec(7))),
		"seg-0000000008":  slices.Concat(head(8), record(rec(8))),
		"snap-0000000004": snapshot(at(4)),
		"snap-0000000006": snapshot(at(6)),
		"snap-0000000007": snapshot(at(7)),
		"snap-0000000009": snapshot(at(9)),
	}
}

// expectHas reports what a journal has other than what is wanted: by ticks, each with a record or a state of its own.
func expectHas(t testing.TB, name string, j store, next int, segs, snaps, records []int) {
	t.Helper()
	var l []api.Record
	for _, tick := range records {
		l = append(l, rec(tick))
	}
	var states []api.State
	for _, tick := range snaps {
		states = append(states, at(tick))
	}
	if n := j.Next(); n != next {
		t.Errorf("%s: Next() = %d, want %d", name, n, next)
	}
	if m := j.Manifest(); !slices.Equal(m.Segs, segs) || !slices.Equal(m.Snaps, snaps) {
		t.Errorf("%s: Manifest() = %v, want %v and %v", name, m, segs, snaps)
	}
	if is := j.Records(); len(is)+len(l) > 0 && !reflect.DeepEqual(is, l) {
		t.Errorf("%s: Records() = %v, want %v", name, is, l)
	}
	if is := j.Snaps(); !reflect.DeepEqual(is, states) {
		t.Errorf("%s: Snaps() = %v, want %v", name, is, states)
	}
}

// expectBroken reports what a broken journal does other than to return ErrDown for each call, and to change nothing.
func expectBroken(t testing.TB, name string, d *disk.Disk, j store) {
	t.Helper()
	was, had := on(d), show(j)
	next := j.Next()
	expect(t, name+", broken: Append", j.Append(rec(next)), api.ErrDown)
	expect(t, name+", broken: Append of another tick", j.Append(rec(next+1)), api.ErrDown)
	expect(t, name+", broken: Append without an encoding", j.Append(noRecords(next)[0]), api.ErrDown)
	expect(t, name+", broken: Snap", j.Snap(at(next)), api.ErrDown)
	expect(t, name+", broken: Snap of another tick", j.Snap(at(next+1)), api.ErrDown)
	expect(t, name+", broken: Snap without an encoding", j.Snap(noStates(next)[0]), api.ErrDown)
	expect(t, name+", broken: Retain", j.Retain(1), api.ErrDown)
	expect(t, name+", broken: Retain of many", j.Retain(100), api.ErrDown)
	expect(t, name+", broken: Retain of none", j.Retain(0), api.ErrDown)
	expectFiles(t, name+", broken", d, was)
	if has := show(j); has != had {
		t.Errorf("%s, broken: %s, want %s", name, has, had)
	}
}

// TestBytes has the bytes of all files, written out.
func TestBytes(t *testing.T) {
	d, _ := disk.New(1000)
	j, e := journal.Start(d, api.State{}, 1)
	expect(t, "Start", e, api.OK)
	expectFiles(t, "Start", d, files{
		"manifest":        {3, 0, 1, 0, 0x53, 0xe8, 0x5a, 0xe6}, // no segment, one snapshot: 0
		"snap-0000000000": {4, 0, 0, 0, 0, 0x1c, 0xdf, 0x44, 0x21},
	})
	sum := func(b ...byte) []byte { return binary.LittleEndian.AppendUint32(b, crc32.ChecksumIEEE(b[1:])) }
	expect(t, "Append", j.Append(api.Record{Ways: []int{2, 2}, Check: 300}), api.OK)
	expect(t, "Append", j.Append(api.Record{Tick: 1}), api.OK)
	expect(t, "Snap", j.Snap(api.State{Tick: 2, Blocked: []int{3}}), api.OK)
	expectDurable(t, "Append and Snap", d, files{
		"manifest":        sum(6, 2, 0, 0, 2, 0, 1),
		"seg-0000000000":  append(sum(2, 7, 0), sum(7, 0, 0, 1, 2, 1, 172, 2)...),
		"seg-0000000001":  append(sum(2, 7, 1), sum(4, 1, 0, 0, 0)...),
		"snap-0000000000": sum(4, 0, 0, 0, 0),
		"snap-0000000002": sum(5, 2, 0, 0, 1, 3),
	})
}

func TestStart(t *testing.T) {
	for _, tick := range []int{0, 1, 4, 300, mostTick - 1, mostTick} {
		for _, per := range []int{1, 2, 999, 1000} {
			d, j := begun(t, tick, per)
			name := fmt.Sprintf("Start at %d", tick)
			expectHas(t, name, j, tick, nil, []int{tick}, nil)
			expectDurable(t, name, d, files{"manifest": manifest(nil, []int{tick}), snapName(tick): snapshot(at(tick))})
		}
	}
}

// refuseStart reports what Start does other than to return an error and nothing else, and to change nothing.
func refuseStart(t *testing.T, name string, d *disk.Disk, s api.State, per int, want api.Errno) {
	t.Helper()
	was := files{}
	if d != nil {
		was = on(d)
	}
	j, e := journal.Start(d, s, per)
	expect(t, name, e, want)
	if j != nil {
		t.Errorf("%s: a journal beside an error", name)
	}
	if d != nil {
		expectFiles(t, name, d, was)
	}
}

func TestStartErrors(t *testing.T) {
	d, _ := disk.New(1000)
	taken := files{"manifest": nil}.disk(t)
	for _, per := range []int{0, 1001, -1, 1002, math.MinInt, math.MaxInt} {
		name := fmt.Sprintf("per %d", per)
		refuseStart(t, name, d, at(1), per, api.ErrArg)
		refuseStart(t, name+" and a manifest", taken, at(1), per, api.ErrArg)
		refuseStart(t, name+" without a disk", nil, at(1), per, api.ErrArg)
	}
	refuseStart(t, "no disk", nil, at(1), 1, api.ErrArg)
	for _, s := range append(noStates(1), api.State{Tick: -1}, api.State{Tick: mostTick + 1}) {
		name := brief(s)
		refuseStart(t, name, d, s, 1, api.ErrArg)
		refuseStart(t, name+" and a manifest", taken, s, 1, api.ErrArg)
	}
	refuseStart(t, "an empty manifest", taken, at(1), 1, api.ErrTwice)
	refuseStart(t, "a manifest", files{"manifest": manifest(nil, []int{1}), "a": {1}}.disk(t), at(1), 1000, api.ErrTwice)
	full := files{"manifest": {1}}.disk(t)
	full.Room(0)
	refuseStart(t, "a manifest on a full disk", full, at(1), 1, api.ErrTwice)
	taken.Fuse(0)
	refuseStart(t, "a manifest without power", taken, at(1), 1, api.ErrTwice)
	refuseStart(t, "no power", func() *disk.Disk { d.Fuse(0); return d }(), at(1), 1, api.ErrDown)
}

// TestStartOnUsedDisk has files that are there already, but no manifest.
func TestStartOnUsedDisk(t *testing.T) {
	there := files{"new": {1, 2}, "cut": {3}, snapName(4): {4, 5, 6}, snapName(5): {7}, segName(4): {8}, "junk": {9}}
	d := there.disk(t)
	j, e := journal.Start(d, at(4), 2)
	expect(t, "Start", e, api.OK)
	want := there.clone()
	delete(want, "new")
	want["manifest"], want[snapName(4)] = manifest(nil, []int{4}), snapshot(at(4))
	expectFiles(t, "Start", d, want)
	expect(t, "Append", j.Append(rec(4)), api.OK)
	want["manifest"], want[segName(4)] = manifest([]int{4}, []int{4}), append(head(4), record(rec(4))...)
	expectFiles(t, "Append", d, want)
	expect(t, "Append", j.Append(rec(5)), api.OK)
	want[segName(4)] = append(want[segName(4)], record(rec(5))...)
	expect(t, "Append", d.Append("new", []byte{1}), api.OK)
	expect(t, "Append", d.Append(snapName(6), []byte{1}), api.OK)
	expect(t, "Snap", j.Snap(at(6)), api.OK)
	want["manifest"], want[snapName(6)] = manifest([]int{4}, []int{4, 6}), snapshot(at(6))
	expectDurable(t, "Snap", d, want)
	_, e = journal.Open(d, 2)
	expect(t, "Open", e, api.OK)
	for _, name := range []string{"cut", "junk", snapName(5)} {
		delete(want, name)
	}
	expectDurable(t, "Open", d, want)
}

func TestAppend(t *testing.T) {
	d, j := begun(t, 4, 2)
	snaps := []int{4}
	want := files{"manifest": manifest(nil, snaps), snapName(4): snapshot(at(4))}
	for i, c := range []struct{ segs, records []int }{
		{[]int{4}, []int{4}},
		{[]int{4}, []int{4, 5}},
		{[]int{4, 6}, []int{4, 5, 6}},
		{[]int{4, 6}, []int{4, 5, 6, 7}},
		{[]int{4, 6, 8}, []int{4, 5, 6, 7, 8}},
	} {
		tick := 4 + i
		name := fmt.Sprintf("Append(%d)", tick)
		for _, wrong := range []int{tick - 1, tick + 1, tick - 2, tick + 2, 0, mostTick} {
			expect(t, fmt.Sprintf("Append(%d), not %d", wrong, tick), j.Append(rec(wrong)), api.ErrGap)
		}
		for _, x := range slices.Concat(noRecords(tick), noRecords(tick-1), []api.Record{{Tick: -1}, {Tick: mostTick + 1}}) {
			expect(t, brief(x), j.Append(x), api.ErrArg)
		}
		expectFiles(t, name+", refused", d, want)
		expect(t, name, j.Append(rec(tick)), api.OK)
		last := segName(c.segs[len(c.segs)-1])
		if len(want[last]) == 0 {
			want[last] = head(tick)
		}
		want[last] = append(want[last], record(rec(tick))...)
		want["manifest"] = manifest(c.segs, snaps)
		expectHas(t, name, j, tick+1, c.segs, snaps, c.records)
		// What is not durable is lost.
		expectDurable(t, name, d, want)
	}
}

func TestRecordsOfASegment(t *testing.T) {
	for _, per := range []int{1, 2, 3, 999, 1000} {
		d, j := begun(t, 0, per)
		var segs, records []int
		for tick := range 2*per + 1 {
			if tick%per == 0 {
				segs = append(segs, tick)
			}
			expect(t, "Append", j.Append(rec(tick)), api.OK)
			records = append(records, tick)
			if m := j.Manifest(); !slices.Equal(m.Segs, segs) || !slices.Equal(m.Snaps, []int{0}) {
				t.Fatalf("per %d, tick %d: %v, want the segments %v", per, tick, m, segs)
			}
		}
		expectHas(t, "Append", j, 2*per+1, segs, []int{0}, records)
		for _, first := range segs {
			_, l, _, rest, e := segment.Parse(on(d)[segName(first)])
			if want := min(per, 2*per+1-first); len(l) != want || rest != frame.Whole || e != api.OK {
				t.Errorf("per %d: segment %d has %d records, want %d", per, first, len(l), want)
			}
		}
	}
}

// TestLastTicks has the greatest ticks that there are.
func TestLastTicks(t *testing.T) {
	d, j := begun(t, mostTick-1, 1, appending(mostTick-1), snapping(mostTick), appending(mostTick))
	want := func(name string, j store) {
		t.Helper()
		expectHas(t, name, j, mostTick+1, []int{mostTick - 1, mostTick}, []int{mostTick - 1, mostTick}, []int{mostTick - 1, mostTick})
		expect(t, name+": Append", j.Append(rec(mostTick+1)), api.ErrArg)
		expect(t, name+": Snap", j.Snap(at(mostTick+1)), api.ErrArg)
		expect(t, name+": Append", j.Append(rec(mostTick)), api.ErrGap)
		expect(t, name+": Snap", j.Snap(at(mostTick)), api.ErrGap)
	}
	want("all ticks", j)
	k, e := journal.Open(d, 1)
	expect(t, "Open", e, api.OK)
	want("opened", k)
	expect(t, "Retain", k.Retain(1), api.OK)
	expectHas(t, "retained", k, mostTick+1, []int{mostTick}, []int{mostTick}, []int{mostTick})
}

func TestSnap(t *testing.T) {
	d, j := begun(t, 4, 2)
	want := files{"manifest": manifest(nil, []int{4}), snapName(4): snapshot(at(4))}
	other := at(4)
	other.Robots = nil
	expect(t, "Snap at the tick of Start", j.Snap(other), api.ErrTwice)
	for _, tick := range []int{0, 3, 5, 6, mostTick} {
		expect(t, "Snap at another tick", j.Snap(at(tick)), api.ErrGap)
	}
	for _, s := range slices.Concat(noStates(4), noStates(5), []api.State{{Tick: -1}, {Tick: mostTick + 1}}) {
		expect(t, brief(s), j.Snap(s), api.ErrArg)
	}
	expectFiles(t, "refused", d, want)
	expectHas(t, "refused", j, 4, nil, []int{4}, nil)
	expect(t, "Append", j.Append(rec(4)), api.OK)
	expect(t, "Snap behind", j.Snap(at(4)), api.ErrGap)
	expect(t, "Snap before", j.Snap(at(6)), api.ErrGap)
	expect(t, "Snap", j.Snap(at(5)), api.OK)
	want["manifest"], want[snapName(5)] = manifest([]int{4}, []int{4, 5}), snapshot(at(5))
	want[segName(4)] = append(head(4), record(rec(4))...)
	expectHas(t, "Snap", j, 5, []int{4}, []int{4, 5}, []int{4})
	expect(t, "Snap again", j.Snap(at(5)), api.ErrTwice)
	expect(t, "Snap again without an encoding", j.Snap(noStates(5)[0]), api.ErrArg)
	expect(t, "Snap of the first tick", j.Snap(at(4)), api.ErrGap)
	expectHas(t, "Snap again", j, 5, []int{4}, []int{4, 5}, []int{4})
	expectDurable(t, "Snap", d, want)
}

func TestRetain(t *testing.T) {
	for _, c := range []struct {
		keep                 int
		segs, snaps, records []int
	}{
		{1, []int{8}, []int{9}, []int{8}},
		{2, []int{6, 8}, []int{7, 9}, []int{6, 7, 8}},
		{3, []int{6, 8}, []int{6, 7, 9}, []int{6, 7, 8}}, // a segment begins at the first snapshot
		{4, []int{4, 6, 8}, []int{4, 6, 7, 9}, []int{4, 5, 6, 7, 8}},
		{5, []int{4, 6, 8}, []int{4, 6, 7, 9}, []int{4, 5, 6, 7, 8}},
		{math.MaxInt, []int{4, 6, 8}, []int{4, 6, 7, 9}, []int{4, 5, 6, 7, 8}},
	} {
		d, j := begun(t, 4, 2, ready()...)
		name := fmt.Sprintf("Retain(%d)", c.keep)
		expectFiles(t, "before "+name, d, whole())
		for _, keep := range []int{0, -1, math.MinInt} {
			expect(t, "keep too little", j.Retain(keep), api.ErrArg)
		}
		expectFiles(t, "refused", d, whole())
		expect(t, name, j.Retain(c.keep), api.OK)
		expectHas(t, name, j, 9, c.segs, c.snaps, c.records)
		want := files{"manifest": manifest(c.segs, c.snaps)}
		for _, tick := range c.segs {
			want[segName(tick)] = whole()[segName(tick)]
		}
		for _, tick := range c.snaps {
			want[snapName(tick)] = whole()[snapName(tick)]
		}
		expectDurable(t, name, d, want)
		// Nothing is written if nothing is removed.
		d.Fuse(0)
		expect(t, name+" again, without power", j.Retain(c.keep), api.OK)
		d.Crash(nil)
		expect(t, "Append", j.Append(rec(9)), api.OK)
		expect(t, "Snap", j.Snap(at(10)), api.OK)
		expectHas(t, name+", later", j, 10, c.segs, append(c.snaps, 10), append(c.records, 9))
		k, e := journal.Open(d, 2)
		expect(t, "Open", e, api.OK)
		expectHas(t, name+", opened", k, 10, c.segs, append(c.snaps, 10), append(c.records, 9))
	}
}

// TestRetainLastSegment has a last segment that ends before the first remaining snapshot, at it, or has no records.
func TestRetainLastSegment(t *testing.T) {
	_, j := begun(t, 0, 1)
	expect(t, "no segment", j.Retain(1), api.OK)
	expectHas(t, "no segment", j, 0, nil, []int{0}, nil)

	_, j = begun(t, 0, 2, appending(0), appending(1), snapping(2))
	expect(t, "one segment, which ends at the snapshot", j.Retain(1), api.OK)
	expectHas(t, "one segment", j, 2, []int{0}, []int{2}, []int{0, 1})

	_, j = begun(t, 0, 2, appending(0), appending(1), snapping(2), appending(2), snapping(3))
	expect(t, "two segments", j.Retain(1), api.OK)
	expectHas(t, "two segments", j, 3, []int{2}, []int{3}, []int{2})

	d, j := begun(t, 0, 2, appending(0), appending(1), snapping(2))
	d.Room(used(d) + len(head(2)) + len(manifest([]int{0, 2}, []int{0, 2})))
	expect(t, "a segment without a record", j.Append(rec(2)), api.ErrFull)
	expectHas(t, "a segment without a record", j, 2, []int{0, 2}, []int{0, 2}, []int{0, 1})
	d.Room(mostRoom)
	expect(t, "Retain", j.Retain(1), api.OK)
	expectHas(t, "only a segment without a record", j, 2, []int{2}, []int{2}, nil)
	k, e := journal.Open(d, 2)
	expect(t, "Open", e, api.OK)
	for _, j := range []*journal.Journal{j, k} {
		expectHas(t, "only a segment without a record", j, 2, []int{2}, []int{2}, nil)
		expect(t, "Snap", j.Snap(at(2)), api.ErrTwice)
		expect(t, "Append", j.Append(rec(3)), api.ErrGap)
	}
	expect(t, "Append", j.Append(rec(2)), api.OK)
	expectHas(t, "its first record", j, 3, []int{2}, []int{2}, []int{2})
	expectFiles(t, "its first record", d, files{"manifest": manifest([]int{2}, []int{2}), snapName(2): snapshot(at(2)),
		segName(2): append(head(2), record(rec(2))...)})
}

// TestOrderOfRetain has the files that are there if the power goes at each operation.
func TestOrderOfRetain(t *testing.T) {
	written := []string{"new: bytes", "new: durable", "manifest"}
	deleted := []string{snapName(4), snapName(6), snapName(7), segName(4), segName(6)}
	for n := range len(written) + len(deleted) {
		d, j := begun(t, 4, 2, ready()...)
		d.Fuse(n)
		name := fmt.Sprintf("Retain with a fuse of %d", n)
		expect(t, name, j.Retain(1), api.ErrDown)
		want := whole()
		if n < len(written) {
			expectHas(t, name, j, 9, []int{4, 6, 8}, []int{4, 6, 7, 9}, []int{4, 5, 6, 7, 8})
		} else {
			// The effects of what was done before the error remain.
			expectHas(t, name, j, 9, []int{8}, []int{9}, []int{8})
			want["manifest"] = manifest([]int{8}, []int{9})
			for _, gone := range deleted[:n-len(written)] {
				delete(want, gone)
			}
		}
		if n == 1 || n == 2 {
			want["new"] = manifest([]int{8}, []int{9})
		}
		expectFiles(t, name, d, want)
		expectBroken(t, name, d, j)
		d.Crash(nil)
		if n == 1 {
			want["new"] = nil
		}
		expectFiles(t, name+", after a crash", d, want)
		expectBroken(t, name+", after a crash", d, j)
		k, e := journal.Open(d, 2)
		expect(t, name+", opened", e, api.OK)
		if n < len(written) {
			expectFiles(t, name+", opened", d, whole())
		} else {
			expectHas(t, name+", opened", k, 9, []int{8}, []int{9}, []int{8})
		}
	}
}

// scene is a call, what is done before it, and how many operations it has.
type scene struct {
	name   string
	tick   int
	per    int
	before []deed
	there  files // files that are laid in between
	call   deed
	burns  int
}

func scenes() []scene {
	three := []deed{appending(4), appending(5), appending(6)}
	junk := files{"new": {1}, "cut": {2, 3}, "junk": {4}, segName(4): {5}, segName(5): {6}, snapName(5): {7}, snapName(9): {8}}
	return []scene{
		{"the first record", 4, 2, nil, nil, appending(4), 7},
		{"the first record at 0", 0, 1, nil, nil, appending(0), 7},
		{"a record that fills a segment", 4, 2, three[:1], nil, appending(5), 2},
		{"a record behind a full segment", 4, 2, three[:2], nil, appending(6), 7},
		{"another one behind a full segment", 4, 3, append(three, snapping(7)), nil, appending(7), 7},
		{"a record of a segment for itself", 4, 1, three, nil, appending(7), 7},
		{"a record of a great segment", 4, 1000, three, nil, appending(7), 2},
		{"a record where files are", 4, 1, nil, junk, appending(4), 9},
		{"a record that needs no segment where files are", 4, 2, three[:1], files{"new": {1}, segName(5): {2}}, appending(5), 2},
		{"a record of another tick", 4, 2, three, nil, appending(8), 0},
		{"a snapshot", 4, 2, three, nil, snapping(7), 5},
		{"a snapshot behind a full segment", 4, 3, three, nil, snapping(7), 5},
		{"a snapshot where files are", 4, 2, three[:1], files{"new": {1}, snapName(5): {2}}, snapping(5), 7},
		{"a snapshot that is there", 4, 2, nil, nil, snapping(4), 0},
		{"only the last snapshot", 4, 2, ready(), nil, retaining(1), 8},
		{"two snapshots", 4, 2, ready(), nil, retaining(2), 6},
		{"three snapshots", 4, 2, ready(), nil, retaining(3), 5},
		{"all snapshots", 4, 2, ready(), nil, retaining(4), 0},
		{"no snapshot", 4, 2, ready(), nil, retaining(0), 0},
		{"the last snapshot where files are", 4, 2, ready(), files{"new": {1}, "cut": {2}}, retaining(1), 9},
	}
}

// set returns both journals as they are before the call.
func (c scene) set(t *testing.T) *pair {
	p := newPair(t)
	p.start(at(c.tick), c.per)
	p.do(c.before...)
	for _, name := range c.there.names() {
		p.file(name, c.there[name])
	}
	return p
}

// TestPowerAtEachOperation has each call with each fuse, what is durable after it, and the journal opened again.
func TestPowerAtEachOperation(t *testing.T) {
	for _, c := range scenes() {
		for n := range c.burns + 2 {
			for _, kept := range [][]int{nil, {1, 1, 1, 1, 1, 1, 1, 1, 1, 1, 1, 1}, {10, 10, 10, 10, 10, 10, 10, 10, 10, 10, 10, 10}, slices.Repeat([]int{mostRoom}, 20)} {
				p := c.set(t)
				p.done = append(p.done, c.name)
				p.fuse(n)
				e := p.do(c.call)
				if (e == api.ErrDown) != (n < c.burns) {
					t.Errorf("%s with a fuse of %d: error %d, but there are %d operations", c.name, n, e, c.burns)
				}
				if e == api.ErrDown {
					expectBroken(t, c.name, p.d, p.j)
				}
				p.crash(kept...)
				if e == api.ErrDown {
					expectBroken(t, c.name+", after a crash", p.d, p.j)
				} else {
					next := p.j.Next()
					p.do(appending(next), appending(next+1), snapping(next+2), retaining(1))
				}
				p.open(c.per)
				next := p.j.Next()
				p.do(appending(next), appending(next+1), snapping(next+2), retaining(2), appending(next+2), retaining(1))
				p.crash()
				p.open(3)
			}
		}
	}
}

// TestEachRoom has each call with any number of bytes left, and calls after it.
func TestEachRoom(t *testing.T) {
	for _, c := range scenes() {
		full := true
		for left := 0; full || left < 60; left++ {
			p := c.set(t)
			p.done = append(p.done, c.name)
			p.room(left)
			full = p.do(c.call) == api.ErrFull
			p.do(c.call, retaining(2), snapping(p.j.Next()), appending(p.j.Next()))
			p.both("room", func(d *disk.Disk) { d.Room(mostRoom) })
			p.do(c.call, snapping(p.j.Next()), appending(p.j.Next()), retaining(1))
			p.crash()
			p.open(c.per)
			if p.quiet || left > 1000 {
				t.Fatal("no call succeeds")
			}
		}
	}
}

// TestFullDisk has what an Append without room leaves, written out.
func TestFullDisk(t *testing.T) {
	base := files{"manifest": manifest(nil, []int{4}), snapName(4): snapshot(at(4))}
	h, m, r := head(4), manifest([]int{4}, []int{4}), record(rec(4))
	laid := base.clone()
	laid[segName(4)] = h
	listed := laid.clone()
	listed["manifest"] = m
	done := listed.clone()
	done[segName(4)] = slices.Concat(h, r)
	growth := len(m) - len(base["manifest"])
	for _, c := range []struct {
		left    int
		e       api.Errno
		want    files
		segs    []int
		records []int
	}{
		{0, api.ErrFull, base, nil, nil},
		{len(h) - 1, api.ErrFull, base, nil, nil},
		{len(h), api.ErrFull, laid, nil, nil},
		{len(h) + len(m) - 1, api.ErrFull, laid, nil, nil},
		{len(h) + len(m), api.ErrFull, listed, []int{4}, nil},
		{len(h) + growth + len(r) - 1, api.ErrFull, listed, []int{4}, nil},
		{len(h) + growth + len(r), api.OK, done, []int{4}, []int{4}},
	} {
		d, j := begun(t, 4, 2)
		d.Room(used(d) + c.left)
		name := fmt.Sprintf("Append with %d bytes left", c.left)
		expect(t, name, j.Append(rec(4)), c.e)
		expectFiles(t, name, d, c.want)
		expectHas(t, name, j, 4+len(c.records), c.segs, []int{4}, c.records)
		d.Crash(nil)
		expectFiles(t, name+", after a crash", d, c.want)
		// It is not broken.
		d.Room(mostRoom)
		if c.e == api.ErrFull {
			expect(t, name+", with room", j.Append(rec(4)), api.OK)
			expectHas(t, name+", with room", j, 5, []int{4}, []int{4}, []int{4})
			expectDurable(t, name+", with room", d, done)
		}
	}
	// Each tick without room is as the one before.
	d, j := begun(t, 4, 2, appending(4))
	d.Room(0)
	for range 3 {
		expect(t, "Append", j.Append(rec(5)), api.ErrFull)
		expect(t, "Append of another tick", j.Append(rec(6)), api.ErrGap)
		expect(t, "Snap", j.Snap(at(5)), api.ErrFull)
		expect(t, "Retain", j.Retain(1), api.OK)
	}
	expectFiles(t, "three times", d, done)
	d, j = begun(t, 4, 2, appending(4), snapping(5))
	was := on(d)
	d.Room(used(d))
	expect(t, "Retain", j.Retain(1), api.ErrFull)
	expectHas(t, "Retain on a full disk", j, 5, []int{4}, []int{4, 5}, []int{4})
	expectDurable(t, "Retain on a full disk", d, was)
}

func TestSnapOnFullDisk(t *testing.T) {
	b, m := snapshot(at(5)), manifest([]int{4}, []int{4, 5})
	for _, c := range []struct {
		left   int
		e      api.Errno
		laid   bool
		listed bool
	}{
		{0, api.ErrFull, false, false},
		{len(b) - 1, api.ErrFull, false, false},
		{len(b), api.ErrFull, true, false},
		{len(b) + len(m) - 1, api.ErrFull, true, false},
		{len(b) + len(m), api.OK, true, true},
	} {
		d, j := begun(t, 4, 2, appending(4))
		want := on(d)
		d.Room(used(d) + c.left)
		name := fmt.Sprintf("Snap with %d bytes left", c.left)
		expect(t, name, j.Snap(at(5)), c.e)
		snaps := []int{4}
		if c.laid {
			want[snapName(5)] = b
		}
		if c.listed {
			want["manifest"], snaps = m, []int{4, 5}
		}
		expectFiles(t, name, d, want)
		expectHas(t, name, j, 5, []int{4}, snaps, []int{4})
		if c.e == api.ErrFull {
			d.Room(mostRoom)
			expect(t, name+", with room", j.Snap(at(5)), api.OK)
			expectHas(t, name+", with room", j, 5, []int{4}, []int{4, 5}, []int{4})
		}
		want["manifest"], want[snapName(5)] = m, b
		expectDurable(t, name+", with room", d, want)
	}
}

// TestStartAtEachOperation has a Start whose power or room ends, and another one after it.
func TestStartAtEachOperation(t *testing.T) {
	for _, there := range []files{nil, {"new": {1}, snapName(4): {2}, "cut": {3}}} {
		burns := 5
		if there != nil {
			burns = 7
		}
		for n := range burns + 1 {
			p := newPair(t)
			for _, name := range there.names() {
				p.file(name, there[name])
			}
			p.fuse(n)
			e := p.start(at(4), 2)
			if (e == api.ErrDown) != (n < burns) {
				t.Errorf("Start with a fuse of %d: error %d, but there are %d operations", n, e, burns)
			}
			p.crash(1, 1, 1, 1)
			if e == api.OK {
				p.do(appending(4))
				continue
			}
			if e := p.open(2); e != api.ErrName {
				t.Errorf("Open after no Start: error %d", e)
			}
			p.start(at(4), 2)
			p.do(appending(4))
		}
		for left := range 200 {
			p := newPair(t)
			for _, name := range there.names() {
				p.file(name, there[name])
			}
			p.room(left)
			p.start(at(4), 2)
			p.both("room", func(d *disk.Disk) { d.Room(mostRoom) })
			p.start(at(4), 2)
			p.crash()
			p.open(2)
		}
	}
}

// TestBrokenByAName has files that somebody else deletes, which is an error of the disk other than ErrFull.
func TestBrokenByAName(t *testing.T) {
	for _, gone := range []string{snapName(4), snapName(6), snapName(7), segName(4), segName(6)} {
		p := newPair(t)
		p.start(at(4), 2)
		p.do(ready()...)
		p.both("without "+gone, func(d *disk.Disk) { d.Delete(gone) })
		if e := p.do(retaining(1)); e != api.ErrName {
			t.Errorf("Retain without %s: error %d", gone, e)
		}
		expectBroken(t, "without "+gone, p.d, p.j)
		expectHas(t, "without "+gone, p.j, 9, []int{8}, []int{9}, []int{8})
		p.do(retaining(1), appending(9), snapping(9))
		p.open(2)
		p.do(appending(9), snapping(10), retaining(1))
	}
}

// refuseOpen reports what Open does other than to return an error and nothing else, and to change nothing.
func refuseOpen(t *testing.T, name string, d *disk.Disk, per int, want api.Errno) {
	t.Helper()
	was := on(d)
	j, e := journal.Open(d, per)
	expect(t, name, e, want)
	if j != nil {
		t.Errorf("%s: a journal beside an error", name)
	}
	expectFiles(t, name, d, was)
}

func TestOpenErrors(t *testing.T) {
	for _, d := range []*disk.Disk{whole().disk(t), files{}.disk(t), files{"manifest": nil}.disk(t)} {
		for _, per := range []int{0, 1001, -1, math.MinInt, math.MaxInt} {
			refuseOpen(t, fmt.Sprintf("per %d", per), d, per, api.ErrArg)
		}
	}
	if j, e := journal.Open(nil, 1); j != nil || e != api.ErrArg {
		t.Errorf("no disk: error %d", e)
	}
	refuseOpen(t, "no files", files{}.disk(t), 1, api.ErrName)
	l := whole()
	delete(l, "manifest")
	l["new"] = whole()["manifest"]
	refuseOpen(t, "no manifest", l.disk(t), 1, api.ErrName)
	d := l.disk(t)
	d.Fuse(0)
	refuseOpen(t, "no manifest and no power", d, 1, api.ErrName)
}

// damage is what is done to the files of the journal that is ready.
type damage struct {
	name string
	do   func(l files)
}

func setting(name, file string, b ...[]byte) damage {
	return damage{file + ": " + name, func(l files) { l[file] = slices.Concat(b...) }}
}

func adding(name, file string, b []byte) damage {
	return damage{file + ": " + name, func(l files) { l[file] = append(l[file], b...) }}
}

func removing(file string) damage {
	return damage{"no " + file, func(l files) { delete(l, file) }}
}

// listing sets the manifest.
func listing(name string, segs, snaps []int) damage {
	return setting(name, "manifest", manifest(segs, snaps))
}

// damages are those that Open answers by ErrSum.
func damages() []damage {
	m := whole()["manifest"]
	l := []damage{
		setting("empty", "manifest"),
		setting("torn", "manifest", m[:len(m)-1]),
		setting("one byte", "manifest", m[:1]),
		setting("a frame of nothing", "manifest", framed(nil)),
		setting("a number too many", "manifest", framed(put(1, 4, 1, 4, 0))),
		setting("a number too few", "manifest", framed(put(1, 4, 2, 4))),
		setting("too great", "manifest", framed(put(0, 1, mostTick+1))),
		setting("a record", "manifest", record(rec(4))),
		adding("twice", "manifest", m),
		adding("a byte behind", "manifest", []byte{0}),
		listing("nothing", nil, nil),
		listing("no snapshots", []int{4, 6, 8}, nil),
		listing("no segments", nil, []int{4, 6, 7, 9}),
		listing("no segments and two snapshots", nil, []int{4, 6}),
		listing("first segment behind the first snapshot", []int{6, 8}, []int{4, 6, 7, 9}),
		listing("first segment behind the first of two snapshots", []int{8}, []int{7, 9}),
		listing("a gap of a segment", []int{4, 8}, []int{4, 6, 7, 9}),
		listing("a segment that is not there", []int{4, 6, 8, 9}, []int{4, 6, 7, 9}),
		listing("a snapshot that is not there", []int{4, 6, 8}, []int{4, 5, 6, 7, 9}),
		listing("a snapshot behind the next tick", []int{4, 6}, []int{4, 6, 7, 9}),
		listing("only a snapshot behind the next tick", []int{4}, []int{7}),
		setting("a segment", snapName(4), head(4)),
		setting("torn at another one", segName(4), head(4), record(rec(4)), record(rec(5)), []byte{9}),
		setting("torn in the middle", segName(6), head(6), record(rec(6)), record(rec(7)), record(rec(8))[:9]),
		setting("bad", segName(8), head(8), record(rec(8)), []byte{0, 1, 1, 1, 1, 1}),
		setting("bad at another one", segName(4), head(4), record(rec(4)), record(rec(5)), []byte{0, 1, 1, 1, 1, 1}),
		setting("a record less", segName(4), head(4), record(rec(4))),
		setting("a record less, the rest torn", segName(4), head(4), record(rec(4)), record(rec(5))[:4]),
		setting("no record", segName(6), head(6)),
		setting("a record more", segName(6), head(6), record(rec(6)), record(rec(7)), record(rec(8))),
		setting("a gap of a record", segName(8), head(8), record(rec(9))),
		setting("a record twice", segName(8), head(8), record(rec(8)), record(rec(8))),
		setting("something else", segName(8), head(8), framed([]byte{8})),
		setting("something else behind a record", segName(8), head(8), record(rec(8)), framed(nil)),
		setting("a head behind a record", segName(8), head(8), record(rec(8)), head(9)),
		setting("too many Ways", segName(8), head(8), record(api.Record{Tick: 8, Ways: make([]int, 100001)})),
	}
	for _, tick := range []int{4, 6, 7, 9} {
		b := snapshot(at(tick))
		turned := bytes.Clone(b)
		turned[3] ^= 16
		l = append(l, removing(snapName(tick)),
			setting("empty", snapName(tick)),
			setting("torn", snapName(tick), b[:len(b)-1]),
			setting("one byte", snapName(tick), b[:1]),
			setting("a bit inverted", snapName(tick), turned),
			setting("two frames", snapName(tick), b, b),
			setting("two frames, one empty", snapName(tick), b, framed(nil)),
			setting("a byte behind", snapName(tick), b, []byte{0}),
			setting("torn behind", snapName(tick), b, b[:len(b)-1]),
			setting("bad behind", snapName(tick), b, turned, b),
			setting("no state", snapName(tick), framed([]byte{byte(tick)})),
			setting("another tick", snapName(tick), snapshot(at(tick+1))),
			setting("an earlier tick", snapName(tick), snapshot(at(tick-1))))
	}
	for _, tick := range []int{4, 6, 8} {
		x := record(rec(tick))
		l = append(l, removing(segName(tick)),
			setting("empty", segName(tick)),
			setting("half a head", segName(tick), head(tick)[:4]),
			setting("no head", segName(tick), x),
			setting("another tick", segName(tick), head(tick+1), record(rec(tick+1))),
			setting("an earlier tick", segName(tick), head(tick-1), record(rec(tick-1)), x),
			setting("another tick in the head alone", segName(tick), head(tick-1), x),
			setting("bad in the middle", segName(tick), head(tick), x[:len(x)-1], []byte{x[len(x)-1] ^ 1}, x))
	}
	return l
}

func TestOpenOfDamagedFiles(t *testing.T) {
	for _, x := range damages() {
		l := whole()
		x.do(l)
		refuseOpen(t, x.name, l.disk(t), 2, api.ErrSum)
		// Nothing is asked of the disk before all files are right.
		l["junk"], l["cut"], l["new"] = []byte{1}, []byte{2}, []byte{3}
		d := l.disk(t)
		d.Fuse(0)
		refuseOpen(t, x.name+", without power", d, 2, api.ErrSum)
		d.Crash(nil)
		d.Room(0)
		refuseOpen(t, x.name+", without room", d, 2, api.ErrSum)
	}
}

func TestOpen(t *testing.T) {
	l := whole()
	d := l.disk(t)
	d.Fuse(0)
	d.Room(0)
	for _, per := range []int{1, 2, 1000} {
		// There is nothing to do, and so no need of power.
		j, e := journal.Open(d, per)
		expect(t, "Open", e, api.OK)
		expectHas(t, "Open", j, 9, []int{4, 6, 8}, []int{4, 6, 7, 9}, []int{4, 5, 6, 7, 8})
		expectFiles(t, "Open", d, l)
	}
	for _, c := range []struct {
		name                 string
		l                    files
		next                 int
		segs, snaps, records []int
	}{
		{"only a snapshot", files{}, 4, nil, []int{4}, nil},
		{"a segment without records", files{segName(4): head(4)}, 4, []int{4}, []int{4}, nil},
		{"a segment before the snapshot", files{segName(3): slices.Concat(head(3), record(rec(3)))}, 4, []int{3}, []int{4}, []int{3}},
		{"a segment around the snapshot", files{segName(3): slices.Concat(head(3), record(rec(3)), record(rec(4)))}, 5, []int{3}, []int{4}, []int{3, 4}},
		{"a last segment without records", files{segName(3): slices.Concat(head(3), record(rec(3))), segName(4): head(4)}, 4, []int{3, 4}, []int{4}, []int{3}},
		// Without records, the next tick is that of the last snapshot, whatever segment there is.
		{"a segment without records before the snapshot", files{segName(3): head(3)}, 4, []int{3}, []int{4}, nil},
		{"a segment without records before two snapshots", files{segName(3): head(3), snapName(6): snapshot(at(6))}, 6, []int{3}, []int{4, 6}, nil},
	} {
		c.l["manifest"], c.l[snapName(4)] = manifest(c.segs, c.snaps), snapshot(at(4))
		d := c.l.disk(t)
		j, e := journal.Open(d, 2)
		expect(t, c.name, e, api.OK)
		expectFiles(t, c.name, d, c.l)
		if j != nil {
			expectHas(t, c.name, j, c.next, c.segs, c.snaps, c.records)
		}
	}
}

// TestOpenWithAnotherPer has a number of records a segment other than the one before.
func TestOpenWithAnotherPer(t *testing.T) {
	for _, c := range []struct {
		per  int
		segs []int
	}{{1, []int{4, 6, 8, 9, 10, 11}}, {2, []int{4, 6, 8, 10}}, {3, []int{4, 6, 8, 11}}, {4, []int{4, 6, 8}}} {
		j, e := journal.Open(whole().disk(t), c.per)
		expect(t, "Open", e, api.OK)
		for tick := 9; tick < 12; tick++ {
			expect(t, "Append", j.Append(rec(tick)), api.OK)
		}
		expectHas(t, "another per", j, 12, c.segs, []int{4, 6, 7, 9}, []int{4, 5, 6, 7, 8, 9, 10, 11})
	}
}

// TestOpenTorn has a last segment whose rest is torn in all ways.
func TestOpenTorn(t *testing.T) {
	x := record(rec(9))
	wrong := bytes.Clone(x)
	wrong[len(wrong)-1] ^= 1
	rests := [][]byte{{128}, {5}, {0, 0}, {0, 1, 0, 0, 0}, wrong, x[1:2]}
	for n := 1; n < len(x); n++ {
		rests = append(rests, x[:n])
	}
	for _, rest := range rests {
		for _, there := range []files{nil, {"cut": {1, 2}, "new": {3}, "a": nil, segName(7): head(7)}} {
			l := whole()
			l[segName(8)] = append(l[segName(8)], rest...)
			maps.Copy(l, there)
			d := l.disk(t)
			name := fmt.Sprintf("torn by %v", rest)
			j, e := journal.Open(d, 2)
			expect(t, name, e, api.OK)
			if j == nil {
				continue
			}
			expectHas(t, name, j, 9, []int{4, 6, 8}, []int{4, 6, 7, 9}, []int{4, 5, 6, 7, 8})
			expectFiles(t, name, d, whole())
			expect(t, "Append", j.Append(rec(9)), api.OK)
			want := whole()
			want[segName(8)] = append(want[segName(8)], x...)
			expectDurable(t, name, d, want)
		}
	}
	l := files{"manifest": manifest([]int{4}, []int{4}), snapName(4): snapshot(at(4)), segName(4): append(head(4), 1)}
	d := l.disk(t)
	j, e := journal.Open(d, 1)
	expect(t, "torn behind the head", e, api.OK)
	expectHas(t, "torn behind the head", j, 4, []int{4}, []int{4}, nil)
	l[segName(4)] = head(4)
	expectDurable(t, "torn behind the head", d, l)
}

// TestOrderOfOpen has the files that are there if the power goes at each operation.
func TestOrderOfOpen(t *testing.T) {
	torn := append(whole()[segName(8)], 1, 2, 3)
	l := whole()
	l[segName(8)] = torn
	for _, name := range []string{"cut", "new", "A", "z", "manifes", "manifest2", segName(5), snapName(5), "seg-8", "snap-00000000009", segName(9) + " "} {
		l[name] = []byte(name)
	}
	deleted := []string{"A", "manifes", "manifest2", "new", segName(5), segName(9) + " ", "seg-8", "snap-00000000009", snapName(5), "z"}
	slices.Sort(deleted)
	want := l.clone()
	steps := []func(){
		func() { delete(want, "cut") },
		func() { want["cut"] = whole()[segName(8)] },
		func() {},
		func() { delete(want, "cut"); want[segName(8)] = whole()[segName(8)] },
	}
	for _, name := range deleted {
		steps = append(steps, func() { delete(want, name) })
	}
	for n := range steps {
		d := l.disk(t)
		d.Fuse(n)
		name := fmt.Sprintf("Open with a fuse of %d", n)
		refuse, e := journal.Open(d, 2)
		expect(t, name, e, api.ErrDown)
		if refuse != nil {
			t.Errorf("%s: a journal beside an error", name)
		}
		expectFiles(t, name, d, want)
		lost := want.clone()
		if n == 2 {
			lost["cut"] = nil
		}
		d.Crash(nil)
		expectFiles(t, name+", after a crash", d, lost)
		j, e := journal.Open(d, 2)
		expect(t, name+", and again", e, api.OK)
		expectHas(t, name+", and again", j, 9, []int{4, 6, 8}, []int{4, 6, 7, 9}, []int{4, 5, 6, 7, 8})
		expectDurable(t, name+", and again", d, whole())
		steps[n]()
	}
	d := l.disk(t)
	d.Fuse(len(steps))
	_, e := journal.Open(d, 2)
	expect(t, "Open with a fuse of as many operations", e, api.OK)
	expectFiles(t, "Open with a fuse of as many operations", d, whole())
}

// TestOpenOnFullDisk has no room for the complete frames of a segment that is torn.
func TestOpenOnFullDisk(t *testing.T) {
	cut := whole()[segName(8)]
	l := whole()
	l[segName(8)], l["new"], l["cut"] = append(slices.Clone(cut), 1, 2, 3), []byte{1, 2}, []byte{3}
	for left := range len(cut) + 2 {
		d := l.disk(t)
		d.Room(used(d) + left)
		j, e := journal.Open(d, 2)
		name := fmt.Sprintf("%d bytes left", left)
		want := l.clone()
		delete(want, "cut")
		if left+1 < len(cut) {
			expect(t, name, e, api.ErrFull)
			if j != nil {
				t.Errorf("%s: a journal beside an error", name)
			}
			expectFiles(t, name, d, want)
			d.Room(mostRoom)
			_, e = journal.Open(d, 2)
		}
		expect(t, name, e, api.OK)
		expectFiles(t, name, d, whole())
	}
	delete(l, "cut")
	l[segName(8)] = cut
	d := l.disk(t)
	d.Room(0)
	_, e := journal.Open(d, 2)
	expect(t, "nothing to be cut", e, api.OK)
	expectFiles(t, "nothing to be cut", d, whole())
}

// TestOpenAgain has journals after each deed: the one that is opened is the same, and does the same to its disk.
func TestOpenAgain(t *testing.T) {
	for n := range len(ready()) + 1 {
		d, j := begun(t, 4, 2, ready()[:n]...)
		was := on(d)
		k, e := journal.Open(d, 2)
		expect(t, "Open", e, api.OK)
		expectFiles(t, "Open", d, was)
		if is, want := show(k), show(j); is != want {
			t.Errorf("opened: %s, want %s", is, want)
		}
		for _, x := range ready()[n:] {
			expect(t, x.name, x.do(k), api.OK)
		}
		expectFiles(t, "ready", d, whole())
		expectHas(t, "ready", k, 9, []int{4, 6, 8}, []int{4, 6, 7, 9}, []int{4, 5, 6, 7, 8})
	}
}

// chosen returns a deed that is chosen at random, most often one that is possible.
func chosen(r *rand.Rand, next int) deed {
	if r.Intn(10) == 0 {
		next += r.Intn(3) - 1
	}
	switch n := r.Intn(20); {
	case n < 12:
		return appending(next)
	case n < 17:
		return snapping(next)
	}
	return retaining(r.Intn(4))
}

// TestChosenSequences has any deeds to a journal and to its disk, which are done to the test's own journal, too.
func TestChosenSequences(t *testing.T) {
	r := rand.New(rand.NewSource(1))
	names := []string{"new", "cut", "junk", "a"}
	for range 1500 {
		p := newPair(t)
		p.start(at(r.Intn(3)*100), 1+r.Intn(3))
		for range 30 {
			switch n := r.Intn(40); {
			case p.j == nil:
				p.crash()
				p.both("room", func(d *disk.Disk) { d.Room(mostRoom) })
				p.open(1 + r.Intn(3))
			case n < 27:
				p.do(chosen(r, p.j.Next()))
			case n < 29:
				p.fuse(r.Intn(12) - 1)
			case n < 31:
				p.room(r.Intn(150))
			case n < 33:
				p.both("room", func(d *disk.Disk) { d.Room(mostRoom) })
			case n < 34:
				p.file(names[r.Intn(len(names))], make([]byte, r.Intn(9)))
			case n < 37:
				p.open(1 + r.Intn(3))
			default:
				kept := make([]int, r.Intn(9))
				for i := range kept {
					kept[i] = r.Intn(50) - 1
				}
				p.crash(kept...)
			}
		}
		p.crash()
		p.open(2)
		if t.Failed() {
			return
		}
	}
}

// TestChosenDamages has files of a journal in which anything may be changed.
func TestChosenDamages(t *testing.T) {
	r := rand.New(rand.NewSource(2))
	var pieces [][]byte
	for tick := range 4 {
		pieces = append(pieces, head(tick), record(rec(tick)), snapshot(at(tick)), framed(put(tick)))
	}
	list := func() []int {
		var l []int
		for tick := range 4 {
			if r.Intn(2) == 0 {
				l = append(l, tick)
			}
		}
		return l
	}
	opened := map[api.Errno]int{}
	for range 20000 {
		l := files{"manifest": manifest(list(), list())}
		for tick := range 4 {
			l[snapName(tick)] = snapshot(at(tick))
			l[segName(tick)] = head(tick)
			for k := range r.Intn(4) {
				l[segName(tick)] = append(l[segName(tick)], record(rec(tick+k))...)
			}
		}
		for range r.Intn(3) {
			names := l.names()
			name := names[r.Intn(len(names))]
			switch b := l[name]; r.Intn(5) {
			case 0:
				delete(l, name)
			case 1:
				l[name] = b[:r.Intn(len(b)+1)]
			case 2:
				l[name] = append(b, pieces[r.Intn(len(pieces))]...)
			case 3:
				l[name] = append(b, 1)
			case 4:
				l[names[r.Intn(len(names))]] = bytes.Clone(b)
			}
		}
		p := &pair{t: t, d: l.disk(t), o: l.disk(t)}
		p.done = []string{brief(map[string][]byte(l))}
		e := p.open(2)
		opened[e]++
		if e == api.OK {
			next := p.j.Next()
			p.do(appending(next), snapping(next+1), retaining(1))
		}
		if t.Failed() {
			return
		}
	}
	if opened[api.OK] < 500 || opened[api.ErrSum] < 500 {
		t.Error("too few of a kind:", opened)
	}
}

// told is what is known of a journal by the answers of its calls alone.
type told struct {
	records  []api.Record // those whose Append was OK
	snaps    []api.State  // those whose Snap was OK, and that Retain has not removed
	pending  *api.Record  // the one in progress
	pendings *api.State   // the same for a snapshot
	keep     int          // of a Retain in progress, or 0
}

// retain forgets what a Retain removes.
func (w *told) retain(keep int) {
	if len(w.snaps) > keep {
		w.snaps = w.snaps[len(w.snaps)-keep:]
	}
}

// check reports what a journal has other than what is known.
func (w *told) check(t *testing.T, name string, j store) {
	t.Helper()
	records, snaps := j.Records(), j.Snaps()
	last := w.records
	if w.pending != nil && len(records) > 0 && records[len(records)-1].Tick == w.pending.Tick {
		last = append(slices.Clone(last), *w.pending)
	}
	// Retain may have removed records before the first snapshot, but no others.
	if len(records) > len(last) || !reflect.DeepEqual(records, last[len(last)-len(records):]) && len(records) > 0 {
		t.Fatalf("%s: records %v, want the last of %v", name, records, last)
	}
	from := 0
	for from < len(last) && last[from].Tick < snaps[0].Tick {
		from++
	}
	if len(records) < len(last)-from {
		t.Fatalf("%s: records %v, want those from %d on of %v", name, records, snaps[0].Tick, last)
	}
	wants := [][]api.State{w.snaps}
	if w.pendings != nil {
		wants = append(wants, append(slices.Clone(w.snaps), *w.pendings))
	}
	if w.keep > 0 && w.keep < len(w.snaps) {
		wants = append(wants, w.snaps[len(w.snaps)-w.keep:])
	}
	if !slices.ContainsFunc(wants, func(l []api.State) bool { return reflect.DeepEqual(l, snaps) }) {
		t.Fatalf("%s: snapshots %v, want one of %v", name, snaps, wants)
	}
}

// settle takes what a journal that was opened has for what is known.
func (w *told) settle(j store) {
	*w = told{records: j.Records(), snaps: j.Snaps()}
}

// try does something that is chosen at random to a journal, and notes what it answers.
func (w *told) try(r *rand.Rand, j store) api.Errno {
	next := j.Next()
	w.pending, w.pendings, w.keep = nil, nil, 0
	switch n := r.Intn(10); {
	case n < 6:
		x := rec(next)
		e := j.Append(x)
		if e == api.OK {
			w.records = append(w.records, x)
		} else {
			w.pending = &x
		}
		return e
	case n < 8:
		s := at(next)
		e := j.Snap(s)
		switch e {
		case api.OK:
			w.snaps = append(w.snaps, s)
		case api.ErrTwice:
		default:
			w.pendings = &s
		}
		return e
	}
	keep := 1 + r.Intn(3)
	e := j.Retain(keep)
	if e == api.OK {
		w.retain(keep)
	} else {
		w.keep = keep
	}
	return e
}

// crashed crashes a disk, and keeps any bytes.
func crashed(r *rand.Rand, d *disk.Disk) {
	kept := make([]int, len(d.List()))
	for i := range kept {
		kept[i] = []int{0, 1, r.Intn(40), mostRoom}[r.Intn(4)]
	}
	d.Crash(kept)
	d.Room(mostRoom)
}

// reopen opens a journal, even if the power goes at some operations of it.
func reopen(t *testing.T, r *rand.Rand, d *disk.Disk, per int) *journal.Journal {
	t.Helper()
	for n := range 20 {
		if r.Intn(2) == 0 {
			d.Fuse(n)
		}
		j, e := journal.Open(d, per)
		if e == api.OK {
			d.Fuse(-1)
			return j
		}
		if e != api.ErrDown {
			t.Fatalf("Open after a crash: error %d", e)
		}
		crashed(r, d)
	}
	t.Fatal("no Open succeeds")
	return nil
}

// TestCrashAtEachOperation is the stage's theorem.
func TestCrashAtEachOperation(t *testing.T) {
	for seed := range 30 {
		for n := range 130 {
			r := rand.New(rand.NewSource(int64(seed)))
			tick, per := r.Intn(3), 1+r.Intn(3)
			d, j := begun(t, tick, per)
			var w told
			w.settle(j)
			d.Fuse(n)
			e := api.OK
			for calls := 0; e != api.ErrDown && calls < 100; calls++ {
				if r.Intn(5) == 0 {
					d.Room(used(d) + r.Intn(120))
				} else {
					d.Room(mostRoom)
				}
				e = w.try(r, j)
			}
			name := fmt.Sprintf("seed %d, operation %d", seed, n)
			other := rand.New(rand.NewSource(int64(seed*1000 + n)))
			crashed(other, d)
			k := reopen(t, other, d, per)
			w.check(t, name, k)
			w.settle(k)
			for range 5 {
				w.try(other, k)
			}
			d.Crash(nil)
			w.check(t, name+", later", reopen(t, other, d, per))
		}
	}
}

// TestRecordInProgress has each number of bytes of a record that a crash can leave.
func TestRecordInProgress(t *testing.T) {
	size := len(record(rec(5)))
	for kept := range size + 2 {
		d, j := begun(t, 4, 2, appending(4))
		d.Fuse(1)
		expect(t, "Append", j.Append(rec(5)), api.ErrDown)
		expectHas(t, "Append", j, 5, []int{4}, []int{4}, []int{4})
		d.Crash([]int{0, kept, 0})
		k, e := journal.Open(d, 2)
		expect(t, "Open", e, api.OK)
		name := fmt.Sprintf("%d bytes are kept", kept)
		if kept < size {
			expectHas(t, name, k, 5, []int{4}, []int{4}, []int{4})
		} else {
			expectHas(t, name, k, 6, []int{4}, []int{4}, []int{4, 5})
		}
	}
}

// TestArgumentsAreLeft has records and states that belong to the caller, before and after a call.
func TestArgumentsAreLeft(t *testing.T) {
	d, _ := disk.New(mostRoom)
	s := at(4)
	j, e := journal.Start(d, s, 2)
	expect(t, "Start", e, api.OK)
	x, y := rec(4), at(5)
	expect(t, "Append", j.Append(x), api.OK)
	expect(t, "Snap", j.Snap(y), api.OK)
	if !reflect.DeepEqual(s, at(4)) || !reflect.DeepEqual(x, rec(4)) || !reflect.DeepEqual(y, at(5)) {
		t.Errorf("the arguments became %v, %v and %v", s, x, y)
	}
	for _, s := range []api.State{s, y} {
		clear(s.Robots)
		clear(s.Tasks)
		clear(s.Blocked)
	}
	clear(x.Inputs)
	clear(x.Codes)
	clear(x.Ways)
	expectHas(t, "after the arguments changed", j, 5, []int{4}, []int{4, 5}, []int{4})
}

// wipe overwrites all that results contain.
func wipe(m segment.Manifest, records []api.Record, snaps []api.State) {
	clear(m.Segs[:cap(m.Segs)])
	clear(m.Snaps[:cap(m.Snaps)])
	for _, x := range records {
		clear(x.Inputs[:cap(x.Inputs)])
		clear(x.Codes[:cap(x.Codes)])
		clear(x.Ways[:cap(x.Ways)])
	}
	for _, s := range snaps {
		clear(s.Robots[:cap(s.Robots)])
		clear(s.Tasks[:cap(s.Tasks)])
		clear(s.Blocked[:cap(s.Blocked)])
	}
	clear(records[:cap(records)])
	clear(snaps[:cap(snaps)])
}

func TestResultsBelongToTheCaller(t *testing.T) {
	d, j := begun(t, 4, 2, ready()...)
	k, e := journal.Open(d, 2)
	expect(t, "Open", e, api.OK)
	for _, j := range []*journal.Journal{j, k} {
		records, snaps := j.Records(), j.Snaps()
		wipe(j.Manifest(), j.Records(), j.Snaps())
		expectHas(t, "after the results changed", j, 9, []int{4, 6, 8}, []int{4, 6, 7, 9}, []int{4, 5, 6, 7, 8})
		if !reflect.DeepEqual(records[0], rec(4)) || !reflect.DeepEqual(snaps[3], at(9)) {
			t.Error("two results share memory")
		}
	}
	// No two of one result share memory.
	records, snaps := j.Records(), j.Snaps()
	wipe(segment.Manifest{}, records[1:4:4], snaps[1:3:3])
	if !reflect.DeepEqual(records[0], rec(4)) || !reflect.DeepEqual(records[4], rec(8)) || !reflect.DeepEqual(snaps[0], at(4)) || !reflect.DeepEqual(snaps[3], at(9)) {
		t.Error("parts of one result share memory")
	}
	// Later calls must not change what was returned.
	m, records, snaps := j.Manifest(), j.Records(), j.Snaps()
	for _, x := range []deed{appending(9), appending(10), snapping(11), retaining(1)} {
		expect(t, x.name, x.do(j), api.OK)
	}
	if !slices.Equal(m.Segs, []int{4, 6, 8}) || !slices.Equal(m.Snaps, []int{4, 6, 7, 9}) || len(records) != 5 || len(snaps) != 4 || !reflect.DeepEqual(records[4], rec(8)) {
		t.Error("results changed")
	}
}

func TestEmptySlicesAreLikeNil(t *testing.T) {
	empty := api.Record{Tick: 0, Inputs: []api.Input{}, Codes: []api.Errno{}, Ways: []int{}}
	var looks []string
	for _, c := range []struct {
		s api.State
		x api.Record
	}{{api.State{}, api.Record{}}, {api.State{Robots: []api.Robot{}, Tasks: []api.Task{}, Blocked: []int{}}, empty}} {
		d, _ := disk.New(1000)
		j, e := journal.Start(d, c.s, 1)
		expect(t, "Start", e, api.OK)
		expect(t, "Append", j.Append(c.x), api.OK)
		looks = append(looks, show(j)+brief(map[string][]byte(on(d))))
	}
	if looks[0] != looks[1] {
		t.Errorf("%s, want %s", looks[1], looks[0])
	}
}

// sized returns a record whose encoding has some bytes.
func sized(size int) api.Record {
	many := size/5 - 4
	x := api.Record{Inputs: make([]api.Input, many), Codes: make([]api.Errno, many)}
	for i := range many {
		if b, _ := codec.Record(x); len(b) == size {
			return x
		} else if len(b) > size {
			panic("no such record")
		}
		x.Inputs[i].C = 100 // a byte more
	}
	panic("no such record")
}

// TestGreatRecords has as many bytes as one frame may contain. More are refused, though nothing is promised of them.
func TestGreatRecords(t *testing.T) {
	d, j := begun(t, 0, 2)
	was := on(d)
	expect(t, "a record that no frame can contain", j.Append(sized(mostFramed+1)), api.ErrArg)
	many := api.State{Robots: make([]api.Robot, mostFramed/5)}
	expect(t, "a snapshot that no frame can contain", j.Snap(many), api.ErrArg)
	refuseStart(t, "a snapshot that no frame can contain", files{}.disk(t), many, 1, api.ErrArg)
	expectFiles(t, "refused", d, was)
	expect(t, "a great record", j.Append(sized(mostFramed)), api.OK)
	great := api.State{Tick: 1, Robots: make([]api.Robot, mostFramed/5-2), Blocked: []int{1}}
	great.Robots[0] = api.Robot{Task: 128, Battery: 128, Hold: 128} // two bytes each
	if b, _ := codec.State(great); len(b) != mostFramed {
		t.Fatal(len(b), "bytes")
	}
	expect(t, "a great snapshot", j.Snap(great), api.OK)
	k, e := journal.Open(d, 1)
	expect(t, "Open", e, api.OK)
	if l := k.Records(); len(l) != 1 || !reflect.DeepEqual(l[0].Inputs, sized(mostFramed).Inputs) {
		t.Error("the great record is not there")
	}
	if l := k.Snaps(); len(l) != 2 || !slices.Equal(l[1].Robots, great.Robots) {
		t.Error("the great snapshot is not there")
	}
}

// TestNoJournal has journals that neither Start nor Open has returned.
func TestNoJournal(t *testing.T) {
	for _, j := range []*journal.Journal{nil, new(journal.Journal)} {
		expect(t, "Append", j.Append(rec(0)), api.ErrDown)
		expect(t, "Snap", j.Snap(at(0)), api.ErrDown)
		expect(t, "Retain", j.Retain(1), api.ErrDown)
		if m := j.Manifest(); j.Next() != 0 || len(m.Segs)+len(m.Snaps)+len(j.Records())+len(j.Snaps()) > 0 {
			t.Error("no journal has", show(j))
		}
	}
}

// TestJournalsAreApart has two journals, of which one is used.
func TestJournalsAreApart(t *testing.T) {
	d, j := begun(t, 4, 2, ready()...)
	_, k := begun(t, 4, 2, ready()...)
	d.Fuse(4)
	expect(t, "Retain", j.Retain(1), api.ErrDown)
	expectHas(t, "the other one", k, 9, []int{4, 6, 8}, []int{4, 6, 7, 9}, []int{4, 5, 6, 7, 8})
	expect(t, "Append", k.Append(rec(9)), api.OK)
}

// TestCallsAtTheSameTime has goroutines with a journal each.
func TestCallsAtTheSameTime(t *testing.T) {
	var group sync.WaitGroup
	for i := range 8 {
		group.Go(func() {
			r := rand.New(rand.NewSource(int64(i)))
			for range 20 {
				p := newPair(t)
				p.start(at(i), 2)
				for range 30 {
					p.do(chosen(r, p.j.Next()))
				}
				p.crash()
				p.open(2)
			}
		})
	}
	group.Wait()
}

// TestManyRecords would take long if each Append wrote or copied what is there already.
func TestManyRecords(t *testing.T) {
	const many = 300000
	d, j := begun(t, 0, 1000)
	for tick := range many {
		if e := j.Append(api.Record{Tick: tick, Ways: []int{1}}); e != api.OK {
			t.Fatal(tick, e)
		}
	}
	for range 1000 {
		expect(t, "Retain", j.Retain(1), api.OK)
		expect(t, "Snap", j.Snap(at(0)), api.ErrGap)
	}
	k, e := journal.Open(d, 1)
	expect(t, "Open", e, api.OK)
	if n := len(k.Records()); n != many || k.Next() != many || len(k.Manifest().Segs) != many/1000 {
		t.Error(n, "records")
	}
}

// TestManyFiles would take long if Open looked for each file among all names.
func TestManyFiles(t *testing.T) {
	const many = 20000
	d, j := begun(t, 0, 1)
	for tick := range 3000 {
		if e := j.Append(api.Record{Tick: tick}); e != api.OK {
			t.Fatal(tick, e)
		}
	}
	want := on(d)
	for i := range many {
		d.Append(fmt.Sprint(i), nil)
	}
	_, e := journal.Open(d, 1)
	expect(t, "Open", e, api.OK)
	expectFiles(t, "Open", d, want)
}

func TestImports(t *testing.T) {
	f, err := parser.ParseFile(token.NewFileSet(), "journal.go", nil, parser.ImportsOnly)
	if err != nil {
		t.Fatal(err)
	}
	for _, i := range f.Imports {
		if !slices.Contains([]string{`"slices"`, `"tugger/api"`, `"tugger/codec"`, `"tugger/disk"`, `"tugger/frame"`, `"tugger/segment"`}, i.Path.Value) {
			t.Error("journal imports", i.Path.Value)
		}
	}
}

func BenchmarkAppend(b *testing.B) {
	d, j := begun(b, 0, 1000)
	x := rec(0)
	for b.Loop() {
		if j.Append(x) == api.ErrFull {
			b.StopTimer()
			d, _ = disk.New(mostRoom)
			x.Tick = 0
			j, _ = journal.Start(d, at(0), 1000)
			b.StartTimer()
			continue
		}
		x.Tick++
	}
}
