package disk_test

import (
	"bytes"
	"fmt"
	"go/parser"
	"go/token"
	"math"
	"math/rand"
	"slices"
	"strconv"
	"strings"
	"sync"
	"testing"

	"tugger/api"
	"tugger/disk"
)

// most is the greatest capacity.
const most = 1 << 24

// device is what a disk can do, and the test's own disk, too.
type device interface {
	Append(name string, b []byte) api.Errno
	Sync(name string) api.Errno
	Rename(from, to string) api.Errno
	Delete(name string) api.Errno
	Read(name string) ([]byte, api.Errno)
	List() []string
	Left() int
	Room(n int) api.Errno
	Fuse(n int)
	Crash(kept []int)
}

var _ device = (*disk.Disk)(nil)

// file is a file as it is laid on a disk: the bytes that are durable, and those that are not.
type file struct{ name, hard, soft string }

// judged is the test's own disk: its files are in a slice, and nothing is counted before it is asked.
type judged struct {
	files       []file
	room, fuse  int
	fused, down bool
}

func judge(room int) *judged { return &judged{room: room} }

// at returns the place of a file, or -1.
func (j *judged) at(name string) int {
	return slices.IndexFunc(j.files, func(f file) bool { return f.name == name })
}

func (j *judged) burn(names ...string) api.Errno {
	for _, name := range names {
		if name == "" || len([]byte(name)) > 40 {
			return api.ErrArg
		}
	}
	if j.down || j.fused && j.fuse == 0 {
		j.down = true
		return api.ErrDown
	}
	if j.fused {
		j.fuse--
	}
	return api.OK
}

func (j *judged) Append(name string, b []byte) api.Errno {
	if e := j.burn(name); e != api.OK {
		return e
	}
	if len(b) > j.Left() {
		return api.ErrFull
	}
	if j.at(name) < 0 {
		j.files = append(j.files, file{name: name})
	}
	j.files[j.at(name)].soft += string(b)
	return api.OK
}

func (j *judged) Sync(name string) api.Errno {
	if e := j.burn(name); e != api.OK {
		return e
	}
	i := j.at(name)
	if i < 0 {
		return api.ErrName
	}
	j.files[i].hard, j.files[i].soft = j.files[i].hard+j.files[i].soft, ""
	return api.OK
}

func (j *judged) Rename(from, to string) api.Errno {
	if e := j.burn(from, to); e != api.OK {
		return e
	}
	if j.at(from) < 0 {
		return api.ErrName
	}
	if from == to {
		return api.OK
	}
	if i := j.at(to); i >= 0 {
		j.files = slices.Delete(j.files, i, i+1)
	}
	j.files[j.at(from)].name = to
	return api.OK
}

func (j *judged) Delete(name string) api.Errno {
	if e := j.burn(name); e != api.OK {
		return e
	}
	i := j.at(name)
	if i < 0 {
		return api.ErrName
	}
	j.files = slices.Delete(j.files, i, i+1)
	return api.OK
}

func (j *judged) Read(name string) ([]byte, api.Errno) {
	i := j.at(name)
	if i < 0 {
		return nil, api.ErrName
	}
	return []byte(j.files[i].hard + j.files[i].soft), api.OK
}

func (j *judged) List() []string {
	var l []string
	for _, f := range j.files {
		l = append(l, f.name)
	}
	slices.SortFunc(l, func(a, b string) int { return bytes.Compare([]byte(a), []byte(b)) })
	return l
}

func (j *judged) Left() int {
	left := j.room
	for _, f := range j.files {
		left -= len(f.hard) + len(f.soft)
	}
	return max(left, 0)
}

func (j *judged) Room(n int) api.Errno {
	if n < 0 || n > most {
		return api.ErrArg
	}
	j.room = n
	return api.OK
}

func (j *judged) Fuse(n int) { j.fuse, j.fused = n, n >= 0 }

func (j *judged) Crash(kept []int) {
	for i, name := range j.List() {
		f := &j.files[j.at(name)]
		switch {
		case i >= len(kept) || kept[i] < 0:
			f.soft = ""
		case kept[i] < len(f.soft):
			f.soft = f.soft[:kept[i]]
		}
		f.hard, f.soft = f.hard+f.soft, ""
	}
	j.fused, j.down = false, false
}

// brief says what a value is in a few words.
func brief(v any) string {
	s := fmt.Sprintf("%q", v)
	if len(s) > 200 {
		return s[:200] + ".."
	}
	return s
}

// made returns a disk on which some files are laid, with as much room left.
func made(t testing.TB, left int, files ...file) *disk.Disk {
	t.Helper()
	d, e := disk.New(most)
	if e != api.OK {
		t.Fatal(e)
	}
	used := 0
	for _, f := range files {
		used += len(f.hard) + len(f.soft)
		expect(t, "Append", d.Append(f.name, []byte(f.hard)), api.OK)
		expect(t, "Sync", d.Sync(f.name), api.OK)
		expect(t, "Append", d.Append(f.name, []byte(f.soft)), api.OK)
	}
	expect(t, "Room", d.Room(used+left), api.OK)
	return d
}

// expect reports an error other than the wanted one.
func expect(t testing.TB, name string, e, want api.Errno) {
	t.Helper()
	if e != want {
		t.Errorf("%s: error %d, want %d", name, e, want)
	}
}

// expectLeft reports what Left does other than to return a wanted number.
func expectLeft(t testing.TB, name string, d device, want int) {
	t.Helper()
	if n := d.Left(); n != want {
		t.Errorf("%s: Left() = %d, want %d", name, n, want)
	}
}

// expectFile reports what Read does other than to return wanted bytes.
func expectFile(t testing.TB, name string, d device, of, want string) {
	t.Helper()
	if b, e := d.Read(of); e != api.OK || string(b) != want {
		t.Errorf("%s: Read(%s) = %s, %d, want %s", name, brief(of), brief(b), e, brief(want))
	}
}

// expectNoFile reports what Read does other than to return ErrName and nothing else.
func expectNoFile(t testing.TB, name string, d device, of string) {
	t.Helper()
	if b, e := d.Read(of); e != api.ErrName || len(b) != 0 {
		t.Errorf("%s: Read(%s) = %s, %d, want ErrName", name, brief(of), brief(b), e)
	}
}

// expectFiles reports files other than wanted ones, of which the soft bytes do not count apart.
func expectFiles(t testing.TB, name string, d device, want ...file) {
	t.Helper()
	var names []string
	for _, f := range want {
		names = append(names, f.name)
		expectFile(t, name, d, f.name, f.hard+f.soft)
	}
	if l := d.List(); !slices.Equal(l, names) {
		t.Errorf("%s: List() = %s, want %s", name, brief(l), brief(names))
	}
}

// expectHard reports files other than wanted ones after a crash that leaves nothing which is not durable.
func expectHard(t testing.TB, name string, d device, want ...file) {
	t.Helper()
	d.Crash(nil)
	expectFiles(t, name+", after a crash", d, want...)
}

// look returns all that can be asked of a disk without changing it.
func look(d device) string {
	var s strings.Builder
	for _, name := range d.List() {
		b, e := d.Read(name)
		fmt.Fprintf(&s, "%q %q %d ", name, b, e)
	}
	fmt.Fprint(&s, d.Left())
	return s.String()
}

// probe returns what is hidden in a disk, too: its power, its fuse if it is short, and what is durable.
func probe(d device) string {
	s := look(d)
	for range 4 {
		s += fmt.Sprint(" ", d.Delete("no such file"))
	}
	d.Crash(nil)
	return s + " after a crash: " + look(d)
}

// deed is something that is done with a disk, and its name.
type deed struct {
	name string
	do   func(d device) api.Errno
}

func appending(name, b string) deed {
	return deed{fmt.Sprintf("Append(%q, %q)", name, b), func(d device) api.Errno { return d.Append(name, []byte(b)) }}
}

func syncing(name string) deed {
	return deed{fmt.Sprintf("Sync(%q)", name), func(d device) api.Errno { return d.Sync(name) }}
}

func renaming(from, to string) deed {
	return deed{fmt.Sprintf("Rename(%q, %q)", from, to), func(d device) api.Errno { return d.Rename(from, to) }}
}

func deleting(name string) deed {
	return deed{fmt.Sprintf("Delete(%q)", name), func(d device) api.Errno { return d.Delete(name) }}
}

func rooming(n int) deed {
	return deed{fmt.Sprintf("Room(%d)", n), func(d device) api.Errno { return d.Room(n) }}
}

func fusing(n int) deed {
	return deed{fmt.Sprintf("Fuse(%d)", n), func(d device) api.Errno { d.Fuse(n); return api.OK }}
}

func crashing(kept ...int) deed {
	return deed{fmt.Sprintf("Crash(%d)", kept), func(d device) api.Errno { d.Crash(kept); return api.OK }}
}

// operations are those that burn, each of which would succeed on a disk with the files a and b.
func operations() []deed {
	return []deed{appending("a", "x"), appending("a", ""), appending("new", "x"), syncing("a"), renaming("a", "b"),
		renaming("a", "c"), renaming("a", "a"), deleting("a")}
}

// failures are those that burn, and then fail on a disk with the files a and b and less than 9 bytes left.
func failures() map[api.Errno][]deed {
	return map[api.Errno][]deed{
		api.ErrFull: {appending("a", "too much."), appending("new", "too much.")},
		api.ErrName: {syncing("z"), renaming("z", "y"), renaming("z", "a"), renaming("z", "z"), deleting("z")},
	}
}

// wrong are those with a name that is not valid.
func wrong() []deed {
	var l []deed
	for _, name := range []string{"", strings.Repeat("a", 41), strings.Repeat("a", 1000), strings.Repeat("é", 21)} {
		l = append(l, appending(name, "x"), appending(name, ""), appending(name, "too much."), syncing(name),
			renaming(name, "a"), renaming("a", name), renaming("z", name), renaming(name, "z"), renaming(name, name),
			deleting(name))
	}
	return l
}

// some returns a disk with the files a, which is durable in part, and b, which is.
func some(t testing.TB) *disk.Disk { return made(t, 8, file{"a", "12", "34"}, file{"b", "56", ""}) }

func TestExample(t *testing.T) {
	d, e := disk.New(2)
	expect(t, "New", e, api.OK)
	expect(t, "three bytes", d.Append("a", []byte("abc")), api.ErrFull)
	expectFiles(t, "three bytes", d)
	expect(t, "two bytes", d.Append("a", []byte("ab")), api.OK)
	expectFiles(t, "two bytes", d, file{"a", "ab", ""})
}

func TestNew(t *testing.T) {
	for _, room := range []int{0, 1, 2, 1000, most - 1, most} {
		d, e := disk.New(room)
		if e != api.OK || d == nil {
			t.Fatalf("New(%d): %d", room, e)
		}
		expectFiles(t, "new", d)
		expectNoFile(t, "new", d, "a")
		expectLeft(t, "new", d, room)
		// With power, and without a fuse.
		for range 1000 {
			expect(t, "new", d.Sync("a"), api.ErrName)
		}
		expect(t, "new, one more byte", d.Append("a", make([]byte, room+1)), api.ErrFull)
		expect(t, "new, all bytes", d.Append("a", make([]byte, room)), api.OK)
		expectLeft(t, "new and full", d, 0)
	}
	for _, room := range []int{-1, -2, most + 1, most + 2, 1 << 32, 1<<32 + 1, math.MinInt, math.MaxInt} {
		if d, e := disk.New(room); d != nil || e != api.ErrArg {
			t.Errorf("New(%d) = %v, %d, want ErrArg", room, d, e)
		}
	}
}

func TestRoom(t *testing.T) {
	for _, n := range []int{0, 1, 5, 6, 7, 1000, most - 1, most} {
		d := some(t)
		expect(t, "Room", d.Room(n), api.OK)
		expectLeft(t, fmt.Sprint("Room ", n), d, max(0, n-6))
		expect(t, "one more byte", d.Append("a", make([]byte, max(0, n-6)+1)), api.ErrFull)
		expectFiles(t, "Room", d, file{"a", "12", "34"}, file{"b", "56", ""})
		expect(t, "all bytes", d.Append("a", make([]byte, max(0, n-6))), api.OK)
	}
	for _, n := range []int{-1, -2, most + 1, 1 << 32, math.MinInt, math.MaxInt} {
		d := some(t)
		expect(t, fmt.Sprint("Room ", n), d.Room(n), api.ErrArg)
		expectLeft(t, "the old capacity", d, 8)
		d.Fuse(0)
		expect(t, "down", d.Sync("a"), api.ErrDown)
		expect(t, fmt.Sprint("without power, Room ", n), d.Room(n), api.ErrArg)
		expectLeft(t, "the old capacity", d, 8)
	}
}

func TestRoomWithoutPower(t *testing.T) {
	d := some(t)
	d.Fuse(0)
	expect(t, "down", d.Append("a", nil), api.ErrDown)
	for _, n := range []int{0, 3, 6, 7, 100, most} {
		expect(t, "Room", d.Room(n), api.OK)
		expectLeft(t, "without power", d, max(0, n-6))
		expect(t, "still down", d.Append("a", nil), api.ErrDown)
	}
	d.Crash(nil)
	expectLeft(t, "after the crash", d, most-4)
}

// TestLessRoomThanBytes has a capacity that the files have passed.
func TestLessRoomThanBytes(t *testing.T) {
	d := some(t)
	expect(t, "Room", d.Room(2), api.OK)
	expectLeft(t, "6 of 2", d, 0)
	expect(t, "a byte", d.Append("a", []byte("x")), api.ErrFull)
	expect(t, "a byte to a new file", d.Append("c", []byte("x")), api.ErrFull)
	expect(t, "no bytes", d.Append("a", nil), api.OK)
	expect(t, "no bytes to a new file", d.Append("c", nil), api.OK)
	expect(t, "Sync", d.Sync("a"), api.OK)
	expect(t, "Rename", d.Rename("c", "d"), api.OK)
	expectFiles(t, "6 of 2", d, file{"a", "1234", ""}, file{"b", "56", ""}, file{"d", "", ""})
	expect(t, "Delete", d.Delete("b"), api.OK)
	expectLeft(t, "4 of 2", d, 0)
	expect(t, "Room", d.Room(5), api.OK)
	expectLeft(t, "4 of 5", d, 1)
	expect(t, "two bytes", d.Append("b", []byte("xy")), api.ErrFull)
	expect(t, "a byte", d.Append("b", []byte("x")), api.OK)
	expectLeft(t, "5 of 5", d, 0)
	expect(t, "Room", d.Room(0), api.OK)
	d.Crash(nil)
	expectLeft(t, "4 of 0", d, 0)
	expect(t, "Room", d.Room(4), api.OK)
	expectLeft(t, "4 of 4", d, 0)
	expect(t, "Delete", d.Delete("a"), api.OK)
	expectLeft(t, "none of 4", d, 4)
}

func TestFuse(t *testing.T) {
	for n := range 12 {
		for _, do := range operations() {
			d := some(t)
			d.Fuse(n)
			for range n {
				expect(t, "before the end of the fuse", d.Append("b", nil), api.OK)
			}
			was := look(d)
			for range 3 {
				expect(t, fmt.Sprint(do.name, " behind a fuse of ", n), do.do(d), api.ErrDown)
			}
			if is := look(d); is != was {
				t.Errorf("%s without power: %s became %s", do.name, was, is)
			}
		}
	}
	for _, n := range []int{-1, -2, -7, math.MinInt, math.MinInt + 1} {
		d := some(t)
		d.Fuse(n)
		for range 1000 {
			expect(t, fmt.Sprint("a fuse of ", n), d.Append("a", nil), api.OK)
		}
		d.Fuse(1)
		d.Fuse(n)
		for range 1000 {
			expect(t, fmt.Sprint("a fuse that was removed by ", n), d.Append("a", nil), api.OK)
		}
	}
	d := some(t)
	for _, n := range []int{math.MaxInt, 1 << 32, 100} {
		d.Fuse(n)
		for range 100 {
			expect(t, "a long fuse", d.Append("a", nil), api.OK)
		}
	}
	expect(t, "the end of a long fuse", d.Append("a", nil), api.ErrDown)
}

// TestFuseIsSetAnew has fuses in place of others.
func TestFuseIsSetAnew(t *testing.T) {
	d := some(t)
	d.Fuse(0)
	d.Fuse(2)
	expect(t, "first", d.Sync("a"), api.OK)
	d.Fuse(2)
	expect(t, "second", d.Sync("a"), api.OK)
	expect(t, "third", d.Sync("a"), api.OK)
	d.Fuse(1)
	expect(t, "fourth", d.Sync("a"), api.OK)
	// A fuse of 0 is not yet a loss of power.
	d.Fuse(-1)
	expect(t, "fifth", d.Sync("a"), api.OK)
	d.Fuse(0)
	expect(t, "last", d.Sync("a"), api.ErrDown)
}

// TestEachOperationBurns has fuses that end after one operation.
func TestEachOperationBurns(t *testing.T) {
	lists := failures()
	lists[api.OK] = operations()
	for want, l := range lists {
		for _, do := range l {
			for n := 1; n < 4; n++ {
				d := some(t)
				d.Fuse(n)
				expect(t, do.name, do.do(d), want)
				for range n - 1 {
					expect(t, "after "+do.name, d.Sync("b"), map[bool]api.Errno{true: api.OK, false: api.ErrName}[slices.Contains(d.List(), "b")])
				}
				expect(t, "at the end of the fuse", d.Append("b", nil), api.ErrDown)
			}
		}
	}
}

// TestWrongNames has names that are not valid, which do not burn.
func TestWrongNames(t *testing.T) {
	for _, do := range wrong() {
		d := some(t)
		was := look(d)
		expect(t, do.name, do.do(d), api.ErrArg)
		d.Fuse(1)
		expect(t, do.name+" with a fuse of 1", do.do(d), api.ErrArg)
		expect(t, "after "+do.name, d.Append("a", nil), api.OK)
		expect(t, do.name+" with a fuse of 0", do.do(d), api.ErrArg)
		// It has not taken the power, either.
		d.Fuse(1)
		expect(t, "after "+do.name+" with a fuse of 0", d.Append("a", nil), api.OK)
		expect(t, "at the end of the fuse", d.Append("a", nil), api.ErrDown)
		expect(t, do.name+" without power", do.do(d), api.ErrArg)
		expect(t, "still without power", d.Append("a", nil), api.ErrDown)
		if is := look(d); is != was {
			t.Errorf("%s: %s became %s", do.name, was, is)
		}
	}
}

// TestNames has names of all lengths around the limits, and such as are no text.
func TestNames(t *testing.T) {
	names := []string{"a", "A", " ", ".", "..", "/", "a/b", "a\nb", "\x00", "\x00\x00", "\xff", "\xff\xfe\x80", "é", "世界",
		strings.Repeat("a", 39), strings.Repeat("a", 40), strings.Repeat("\xff", 40), strings.Repeat("é", 20), strings.Repeat("\x00", 40)}
	for i, name := range names {
		d, _ := disk.New(100)
		expect(t, brief(name), d.Append(name, []byte("x")), api.OK)
		expect(t, brief(name), d.Sync(name), api.OK)
		expectFiles(t, brief(name), d, file{name, "x", ""})
		other := names[(i+1)%len(names)]
		expect(t, brief(name), d.Rename(name, other), api.OK)
		expectFiles(t, brief(name), d, file{other, "x", ""})
		expect(t, brief(name), d.Rename(other, name), api.OK)
		expect(t, brief(name), d.Delete(name), api.OK)
		expectFiles(t, brief(name), d)
	}
	for _, name := range []string{"", strings.Repeat("a", 41), strings.Repeat("\xff", 41), strings.Repeat("é", 21), strings.Repeat("世", 14), strings.Repeat("\x00", 1<<20)} {
		d := some(t)
		was := look(d)
		expect(t, brief(name), d.Append(name, []byte("x")), api.ErrArg)
		expect(t, brief(name), d.Sync(name), api.ErrArg)
		expect(t, brief(name), d.Rename("a", name), api.ErrArg)
		expect(t, brief(name), d.Rename(name, "a"), api.ErrArg)
		expect(t, brief(name), d.Delete(name), api.ErrArg)
		expectNoFile(t, "a name that is not valid", d, name)
		if is := look(d); is != was {
			t.Errorf("%s: %s became %s", brief(name), was, is)
		}
	}
}

// TestNewFuseGivesNoPower has fuses that are set without power.
func TestNewFuseGivesNoPower(t *testing.T) {
	for _, n := range []int{math.MinInt, -1, 0, 1, 2, 1000, math.MaxInt} {
		d := some(t)
		d.Fuse(0)
		was := look(d)
		expect(t, "down", d.Delete("a"), api.ErrDown)
		d.Fuse(n)
		for _, do := range operations() {
			expect(t, fmt.Sprintf("%s without power, with a fuse of %d", do.name, n), do.do(d), api.ErrDown)
		}
		d.Fuse(-1)
		expect(t, "without the fuse", d.Delete("a"), api.ErrDown)
		if is := look(d); is != was {
			t.Errorf("%s became %s", was, is)
		}
		d.Crash(nil)
		expect(t, "with power again", d.Delete("a"), api.OK)
	}
}

// TestNothingElseBurns has what may be asked behind any fuse, and without power.
func TestNothingElseBurns(t *testing.T) {
	asked := func(d *disk.Disk) {
		t.Helper()
		expectFiles(t, "asked", d, file{"a", "12", "34"}, file{"b", "56", ""})
		expectNoFile(t, "asked", d, "c")
		expectNoFile(t, "asked", d, "")
		expectNoFile(t, "asked", d, strings.Repeat("a", 41))
		expectLeft(t, "asked", d, 8)
		expect(t, "asked", d.Room(14), api.OK)
		expect(t, "asked", d.Room(-1), api.ErrArg)
	}
	d := some(t)
	d.Fuse(1)
	asked(d)
	asked(d)
	expect(t, "the fuse is still 1", d.Append("a", nil), api.OK)
	asked(d)
	d.Fuse(0)
	asked(d)
	// With a fuse of 0, there is power yet.
	d.Fuse(1)
	expect(t, "the fuse is 1 again", d.Append("a", nil), api.OK)
	expect(t, "at the end of the fuse", d.Append("a", nil), api.ErrDown)
	asked(d)
}

// TestWithoutPower has operations that would succeed, and such as would fail: nothing changes.
func TestWithoutPower(t *testing.T) {
	l := operations()
	for _, more := range failures() {
		l = append(l, more...)
	}
	for _, first := range l {
		for _, second := range l {
			d := some(t)
			was := look(d)
			d.Fuse(0)
			for range 2 {
				expect(t, first.name, first.do(d), api.ErrDown)
				expect(t, second.name, second.do(d), api.ErrDown)
			}
			if is := look(d); is != was {
				t.Errorf("%s and %s without power: %s became %s", first.name, second.name, was, is)
			}
			expectHard(t, first.name+" and "+second.name, d, file{"a", "12", ""}, file{"b", "56", ""})
			expect(t, "with power again", d.Delete("a"), api.OK)
		}
	}
}

func TestAppend(t *testing.T) {
	d := made(t, 10)
	expect(t, "no bytes to no file", d.Append("e", nil), api.OK)
	expect(t, "no bytes to an empty file", d.Append("e", []byte{}), api.OK)
	expectFiles(t, "empty", d, file{"e", "", ""})
	expectLeft(t, "empty", d, 10)
	expect(t, "bytes to no file", d.Append("a", []byte("12\x00")), api.OK)
	expectLeft(t, "3 bytes", d, 7)
	expect(t, "bytes to a file", d.Append("a", []byte("\xff45")), api.OK)
	expect(t, "no bytes to a file", d.Append("a", nil), api.OK)
	expect(t, "bytes to an empty file", d.Append("e", []byte("x")), api.OK)
	expectFiles(t, "some", d, file{"a", "12\x00\xff45", ""}, file{"e", "x", ""})
	expectLeft(t, "7 bytes", d, 3)
	was := look(d)
	for _, name := range []string{"a", "e", "new"} {
		expect(t, "one byte more", d.Append(name, []byte("1234")), api.ErrFull)
		expect(t, "many bytes more", d.Append(name, make([]byte, 1<<20)), api.ErrFull)
	}
	if is := look(d); is != was {
		t.Errorf("after ErrFull, %s became %s", was, is)
	}
	expect(t, "as many bytes as left", d.Append("e", []byte("123")), api.OK)
	expectLeft(t, "full", d, 0)
	expect(t, "one byte", d.Append("a", []byte("1")), api.ErrFull)
	expect(t, "no bytes to a file of a full disk", d.Append("a", nil), api.OK)
	expect(t, "no bytes to no file of a full disk", d.Append("new", nil), api.OK)
	expectFiles(t, "full", d, file{"a", "12\x00\xff45", ""}, file{"e", "x123", ""}, file{"new", "", ""})
	expectHard(t, "nothing was synced", d, file{"a", "", ""}, file{"e", "", ""}, file{"new", "", ""})
	expectLeft(t, "nothing was synced", d, 10)
}

// TestAppendToDurableFile has bytes behind those that are durable.
func TestAppendToDurableFile(t *testing.T) {
	for durable := range 4 {
		for more := range 4 {
			text := "abcdef"[:durable+more]
			for kept := -1; kept <= 5; kept++ {
				d := made(t, 20, file{"a", text[:durable], text[durable:]})
				expect(t, "Append", d.Append("a", []byte("+")), api.OK)
				expectFile(t, "appended", d, "a", text+"+")
				d.Crash([]int{kept})
				want := (text + "+")[:durable+min(max(kept, 0), more+1)]
				expectFiles(t, fmt.Sprintf("%d durable, %d more, %d kept", durable, more, kept), d, file{"a", want, ""})
			}
		}
	}
}

func TestSync(t *testing.T) {
	d := made(t, 10, file{"a", "12", "34"}, file{"b", "", "56"}, file{"c", "78", ""}, file{"e", "", ""})
	was := look(d)
	for _, name := range []string{"z", "A", "aa", "\x00"} {
		expect(t, "no such file", d.Sync(name), api.ErrName)
	}
	for _, name := range []string{"a", "c", "e", "a"} {
		expect(t, "Sync", d.Sync(name), api.OK)
	}
	if is := look(d); is != was {
		t.Errorf("after Sync, %s became %s", was, is)
	}
	expect(t, "Append", d.Append("a", []byte("+")), api.OK)
	expectHard(t, "synced", d, file{"a", "1234", ""}, file{"b", "", ""}, file{"c", "78", ""}, file{"e", "", ""})
	expectLeft(t, "synced", d, 12)
}

func TestRename(t *testing.T) {
	for _, c := range []struct {
		name     string
		from, to string
		left     int
		want     []file
	}{
		{"to no file", "a", "z", 0, []file{{"b", "56", "78"}, {"e", "", ""}, {"z", "12", "3"}}},
		{"to a file", "a", "b", 4, []file{{"b", "12", "3"}, {"e", "", ""}}},
		{"to a file, the other way", "b", "a", 3, []file{{"a", "56", "78"}, {"e", "", ""}}},
		{"to an empty file", "b", "e", 0, []file{{"a", "12", "3"}, {"e", "56", "78"}}},
		{"an empty file", "e", "a", 3, []file{{"a", "", ""}, {"b", "56", "78"}}},
		{"an empty file to no file", "e", "0", 0, []file{{"0", "", ""}, {"a", "12", "3"}, {"b", "56", "78"}}},
		{"to its own name", "a", "a", 0, []file{{"a", "12", "3"}, {"b", "56", "78"}, {"e", "", ""}}},
		{"an empty file to its own name", "e", "e", 0, []file{{"a", "12", "3"}, {"b", "56", "78"}, {"e", "", ""}}},
	} {
		d := made(t, 0, file{"a", "12", "3"}, file{"b", "56", "78"}, file{"e", "", ""})
		expect(t, c.name, d.Rename(c.from, c.to), api.OK)
		expectFiles(t, c.name, d, c.want...)
		expectLeft(t, c.name, d, c.left)
		if c.from != c.to {
			expectNoFile(t, c.name, d, c.from)
			expect(t, c.name+", again", d.Rename(c.from, c.to), api.ErrName)
		}
		expectFiles(t, c.name, d, c.want...)
		expect(t, c.name+", one more byte than left", d.Append("a", make([]byte, c.left+1)), api.ErrFull)
		for i := range c.want {
			c.want[i].soft = ""
		}
		expectHard(t, c.name, d, c.want...)
	}
	d := some(t)
	was := look(d)
	for _, to := range []string{"a", "b", "z", "y"} {
		expect(t, "no file from", d.Rename("z", to), api.ErrName)
	}
	if is := look(d); is != was {
		t.Errorf("after ErrName, %s became %s", was, is)
	}
}

// TestRenamedBytesMoveOn has bytes that are appended and synced under names to which files were renamed.
func TestRenamedBytesMoveOn(t *testing.T) {
	d := made(t, 10, file{"a", "12", "3"}, file{"b", "4", "5"})
	expect(t, "Rename", d.Rename("a", "c"), api.OK)
	expect(t, "the old name anew", d.Append("a", []byte("x")), api.OK)
	expect(t, "the new name", d.Append("c", []byte("y")), api.OK)
	expectFiles(t, "renamed", d, file{"a", "x", ""}, file{"b", "45", ""}, file{"c", "123y", ""})
	expect(t, "Rename", d.Rename("b", "a"), api.OK)
	expect(t, "Sync", d.Sync("a"), api.OK)
	expect(t, "Append", d.Append("a", []byte("z")), api.OK)
	expectFiles(t, "renamed again", d, file{"a", "45z", ""}, file{"c", "123y", ""})
	expectLeft(t, "renamed again", d, 8)
	expectHard(t, "renamed again", d, file{"a", "45", ""}, file{"c", "12", ""})
	expectLeft(t, "renamed again, after the crash", d, 11)
}

func TestDelete(t *testing.T) {
	d := made(t, 1, file{"a", "12", "3"}, file{"b", "56", "78"}, file{"e", "", ""})
	was := look(d)
	expect(t, "no such file", d.Delete("z"), api.ErrName)
	if is := look(d); is != was {
		t.Errorf("after ErrName, %s became %s", was, is)
	}
	expect(t, "a file", d.Delete("a"), api.OK)
	expectFiles(t, "deleted", d, file{"b", "56", "78"}, file{"e", "", ""})
	expectNoFile(t, "deleted", d, "a")
	expectLeft(t, "deleted", d, 4)
	expect(t, "again", d.Delete("a"), api.ErrName)
	expect(t, "synced", d.Sync("a"), api.ErrName)
	expect(t, "renamed", d.Rename("a", "b"), api.ErrName)
	expect(t, "an empty file", d.Delete("e"), api.OK)
	expectLeft(t, "deleted an empty file", d, 4)
	expectHard(t, "deleted", d, file{"b", "56", ""})
	expect(t, "the last one", d.Delete("b"), api.OK)
	expectFiles(t, "all deleted", d)
	expectLeft(t, "all deleted", d, 8)
}

// TestDeletedFileAnew has files with the names of deleted ones, of which nothing is durable.
func TestDeletedFileAnew(t *testing.T) {
	for _, text := range []string{"", "x", "xy", "xyzabcdef"} {
		d := made(t, 10, file{"a", "durable", "+"})
		expect(t, "Delete", d.Delete("a"), api.OK)
		expect(t, "Append", d.Append("a", []byte(text)), api.OK)
		expectFiles(t, "anew", d, file{"a", text, ""})
		expectLeft(t, "anew", d, 18-len(text))
		expectHard(t, "anew", d, file{"a", "", ""})
		expectLeft(t, "anew, after the crash", d, 18)
	}
}

func TestRead(t *testing.T) {
	d := made(t, 10, file{"a", "12", "34"}, file{"e", "", ""})
	for range 2 {
		expectFile(t, "durable in part", d, "a", "1234")
		expectFile(t, "empty", d, "e", "")
		for _, name := range []string{"z", "A", "aa", "", "\x00", "a\x00", strings.Repeat("a", 40), strings.Repeat("a", 41)} {
			expectNoFile(t, "no such file", d, name)
		}
		d.Fuse(0)
		expect(t, "down", d.Sync("a"), api.ErrDown)
	}
}

func TestList(t *testing.T) {
	d := made(t, 100)
	expectFiles(t, "no files", d)
	want := []string{"\x00", "\x00\x00", " ", "-", "0", "00", "10", "2", "A", "Z", "a", "a\x00", "a ", "aa", "ab", "b", "z", "é", "世", "\xf0", "\xff", "\xff\xff"}
	r := rand.New(rand.NewSource(1))
	for range 20 {
		for _, i := range r.Perm(len(want)) {
			expect(t, "Append", d.Append(want[i], nil), api.OK)
		}
		if l := d.List(); !slices.Equal(l, want) {
			t.Fatalf("List() = %q, want %q", l, want)
		}
		for _, i := range r.Perm(len(want)) {
			expect(t, "Delete", d.Delete(want[i]), api.OK)
		}
		expectFiles(t, "no files", d)
	}
}

func TestCrash(t *testing.T) {
	laid := []file{{"a", "12", "345"}, {"b", "", "678"}, {"c", "9", ""}, {"d", "", ""}}
	for _, c := range []struct {
		name string
		kept []int
		want []string
	}{
		{"no elements", nil, []string{"12", "", "9", ""}},
		{"no elements, not nil", []int{}, []string{"12", "", "9", ""}},
		{"none", []int{0, 0, 0, 0}, []string{"12", "", "9", ""}},
		{"negative", []int{-1, math.MinInt, -1, -2}, []string{"12", "", "9", ""}},
		{"one byte", []int{1, 1, 1, 1}, []string{"123", "6", "9", ""}},
		{"one less", []int{2, 2}, []string{"1234", "67", "9", ""}},
		{"all", []int{3, 3, 0, 0}, []string{"12345", "678", "9", ""}},
		{"more than all", []int{4, 5, 6, 7}, []string{"12345", "678", "9", ""}},
		{"far more", []int{math.MaxInt, math.MaxInt, math.MaxInt, math.MaxInt}, []string{"12345", "678", "9", ""}},
		{"fewer elements", []int{2}, []string{"1234", "", "9", ""}},
		{"more elements", []int{0, 2, 0, 0, 1, 2, 3}, []string{"12", "67", "9", ""}},
		{"some", []int{-1, 1, -5, 9}, []string{"12", "6", "9", ""}},
	} {
		d := made(t, 4, laid...)
		var want []file
		used := 0
		for i, text := range c.want {
			want = append(want, file{laid[i].name, text, ""})
			used += len(text)
		}
		d.Crash(c.kept)
		expectFiles(t, c.name, d, want...)
		expectLeft(t, c.name, d, 13-used)
		// All that remains is durable.
		expectHard(t, c.name, d, want...)
		expectLeft(t, c.name, d, 13-used)
		expect(t, "as many bytes as left", d.Append("a", make([]byte, 13-used)), api.OK)
	}
	d := made(t, 0)
	d.Crash([]int{1, 2})
	expectFiles(t, "no files", d)
	expectLeft(t, "no files", d, 0)
}

// TestCrashIsInOrderOfList has files that are made in another order.
func TestCrashIsInOrderOfList(t *testing.T) {
	d := made(t, 10, file{"c", "", "123"}, file{"a", "", "456"}, file{"B", "", "789"})
	expect(t, "Rename", d.Rename("c", "0"), api.OK)
	d.Crash([]int{1, 2, 3})
	expectFiles(t, "in order", d, file{"0", "1", ""}, file{"B", "78", ""}, file{"a", "456", ""})
}

// TestPowerAfterCrash has disks with and without a fuse and power before the crash.
func TestPowerAfterCrash(t *testing.T) {
	for _, n := range []int{-1, 0, 1, 2, 1000} {
		for burnt := range 4 {
			d := some(t)
			d.Fuse(n)
			for range burnt {
				d.Append("a", nil)
			}
			d.Crash(nil)
			for range 2000 {
				expect(t, "with power and without a fuse", d.Append("a", nil), api.OK)
			}
			expectFiles(t, "after the crash", d, file{"a", "12", ""}, file{"b", "56", ""})
			d.Fuse(1)
			expect(t, "a new fuse", d.Append("a", nil), api.OK)
			expect(t, "at the end of the new fuse", d.Append("a", nil), api.ErrDown)
		}
	}
}

// TestSecondCrash has bytes that are appended between two crashes.
func TestSecondCrash(t *testing.T) {
	d := made(t, 20, file{"a", "12", "345"}, file{"b", "", "678"})
	d.Crash([]int{1, 2})
	d.Crash(nil)
	expectFiles(t, "at once", d, file{"a", "123", ""}, file{"b", "67", ""})
	expect(t, "Append", d.Append("a", []byte("xyz")), api.OK)
	expect(t, "Append", d.Append("c", []byte("+")), api.OK)
	expectLeft(t, "between", d, 28-9)
	d.Crash([]int{2, 9})
	expectFiles(t, "later", d, file{"a", "123xy", ""}, file{"b", "67", ""}, file{"c", "", ""})
	expectLeft(t, "later", d, 28-7)
	// What a crash took must not come back.
	expect(t, "Append", d.Append("a", []byte("-")), api.OK)
	expect(t, "Append", d.Append("b", []byte("-")), api.OK)
	d.Crash([]int{5, 5})
	expectFiles(t, "at last", d, file{"a", "123xy-", ""}, file{"b", "67-", ""}, file{"c", "", ""})
}

// compare does the same with a disk and with the test's own, and reports where they differ.
func compare(t *testing.T, room int, l []deed) {
	t.Helper()
	d, e := disk.New(room)
	expect(t, "New", e, api.OK)
	j := judge(room)
	var done []string
	for _, x := range l {
		done = append(done, x.name)
		if e, want := x.do(d), x.do(j); e != want {
			t.Fatalf("%s: error %d, want %d", strings.Join(done, ", "), e, want)
		}
		if is, want := look(d), look(j); is != want {
			t.Fatalf("%s:\n%s, want\n%s", strings.Join(done, ", "), is, want)
		}
	}
	if is, want := probe(d), probe(j); is != want {
		t.Fatalf("%s:\n%s, want\n%s", strings.Join(done, ", "), is, want)
	}
}

// TestShortSequences has all sequences of a few deeds.
func TestShortSequences(t *testing.T) {
	many := []deed{appending("a", ""), appending("a", "xy"), appending("b", "z"), syncing("a"), syncing("b"),
		renaming("a", "b"), renaming("b", "a"), renaming("a", "a"), deleting("a"), deleting("b"), appending("", "x"),
		rooming(-1), rooming(2), rooming(5), fusing(-1), fusing(0), fusing(1), fusing(2), crashing(), crashing(1), crashing(0, 1)}
	few := []deed{appending("a", "xy"), appending("b", "z"), syncing("a"), renaming("a", "b"), deleting("a"), fusing(1), crashing(1, -1)}
	var all func(of, done []deed, more int)
	all = func(of, done []deed, more int) {
		if more == 0 {
			compare(t, 4, done)
			return
		}
		for _, x := range of {
			all(of, append(slices.Clone(done), x), more-1)
		}
	}
	all(many, nil, 1)
	all(many, nil, 3)
	all(few, nil, 5)
}

// chosen returns a deed that is chosen at random.
func chosen(r *rand.Rand) deed {
	names := []string{"a", "b", "c", "d"}
	name, other := names[r.Intn(4)], names[r.Intn(4)]
	if r.Intn(40) == 0 {
		name = strings.Repeat("a", r.Intn(2)*41)
	}
	switch n := r.Intn(20); {
	case n < 7:
		return appending(name, "abcdefghijklmnopqrstuvwxyz"[r.Intn(20):][:r.Intn(7)])
	case n < 10:
		return syncing(name)
	case n < 13:
		return renaming(name, other)
	case n < 15:
		return deleting(name)
	case n < 16:
		return rooming(r.Intn(40) - 2)
	case n < 17:
		return fusing(r.Intn(12) - 2)
	}
	kept := make([]int, r.Intn(6))
	for i := range kept {
		kept[i] = r.Intn(10) - 2
	}
	return crashing(kept...)
}

func TestChosenSequences(t *testing.T) {
	r := rand.New(rand.NewSource(2))
	for range 3000 {
		l := make([]deed, r.Intn(60))
		for i := range l {
			l[i] = chosen(r)
		}
		compare(t, r.Intn(40), l)
	}
}

// TestDurableBytesSurvive is the stage's theorem. What is durable is known from the calls alone.
func TestDurableBytesSurvive(t *testing.T) {
	r := rand.New(rand.NewSource(3))
	for range 1000 {
		d, _ := disk.New(60)
		durable := map[string]string{}
		for range 40 {
			name, other := string("abc"[r.Intn(3)]), string("abc"[r.Intn(3)])
			switch n := r.Intn(10); {
			case n < 4:
				d.Append(name, []byte("123456"[:r.Intn(7)]))
			case n < 6 && d.Sync(name) == api.OK:
				b, _ := d.Read(name)
				durable[name] = string(b)
			case n == 7 && d.Rename(name, other) == api.OK && name != other:
				durable[other] = durable[name]
				delete(durable, name)
			case n == 8 && d.Delete(name) == api.OK:
				delete(durable, name)
			case n == 9:
				d.Fuse(r.Intn(20))
			}
		}
		before, names := map[string]string{}, d.List()
		for _, name := range names {
			b, _ := d.Read(name)
			before[name] = string(b)
		}
		kept := make([]int, r.Intn(4))
		for i := range kept {
			kept[i] = r.Intn(12) - 2
		}
		d.Crash(kept)
		if l := d.List(); !slices.Equal(l, names) {
			t.Fatalf("after the crash, List() = %q, want %q", l, names)
		}
		for _, name := range names {
			b, _ := d.Read(name)
			if !strings.HasPrefix(string(b), durable[name]) || !strings.HasPrefix(before[name], string(b)) {
				t.Fatalf("of %q, of which %q is durable, %q remains", before[name], durable[name], b)
			}
		}
	}
}

// TestNothingChangesWithoutPower has any deeds but a crash and another capacity.
func TestNothingChangesWithoutPower(t *testing.T) {
	r := rand.New(rand.NewSource(4))
	for range 500 {
		d, _ := disk.New(100)
		for range 20 {
			chosen(r).do(d)
		}
		d.Fuse(0)
		expect(t, "down", d.Sync("a"), api.ErrDown)
		was := look(d)
		for range 20 {
			x := chosen(r)
			if strings.HasPrefix(x.name, "Crash") || strings.HasPrefix(x.name, "Room") {
				continue
			}
			e := x.do(d)
			if is := look(d); is != was || e == api.OK && !strings.HasPrefix(x.name, "Fuse") {
				t.Fatalf("%s without power: error %d, %s became %s", x.name, e, was, is)
			}
		}
	}
}

// TestArgumentsAreLeft has bytes and numbers that belong to the caller, before and after a call.
func TestArgumentsAreLeft(t *testing.T) {
	d := made(t, 100)
	whole := []byte("abcdef")
	expect(t, "Append", d.Append("a", whole[1:3]), api.OK)
	expect(t, "Append", d.Append("a", whole[3:4]), api.OK)
	expect(t, "Append", d.Append("b", whole[:0]), api.OK)
	expect(t, "Append", d.Append("b", []byte("x")), api.OK)
	expect(t, "Sync", d.Sync("a"), api.OK)
	expect(t, "Append", d.Append("a", whole), api.OK)
	kept := []int{2, -1, 7}
	d.Crash(kept[:2])
	if string(whole) != "abcdef" || !slices.Equal(kept, []int{2, -1, 7}) {
		t.Errorf("the arguments became %q and %v", whole, kept)
	}
	clear(whole)
	clear(kept)
	expectFiles(t, "after the arguments changed", d, file{"a", "bcdab", ""}, file{"b", "", ""})
}

func TestResultsBelongToTheCaller(t *testing.T) {
	d := made(t, 100, file{"a", "12", "34"}, file{"b", "5", ""})
	first, _ := d.Read("a")
	second, _ := d.Read("a")
	names := d.List()
	clear(first[:cap(first)])
	if string(second) != "1234" {
		t.Errorf("two results of Read share memory: %q", second)
	}
	clear(names[:cap(names)])
	expectFiles(t, "after the results changed", d, file{"a", "12", "34"}, file{"b", "5", ""})
	// What is read may be appended, to its own file, too.
	expect(t, "Append", d.Append("a", second), api.OK)
	expect(t, "Append", d.Append("b", second), api.OK)
	clear(second)
	expectFiles(t, "what was read", d, file{"a", "12341234", ""}, file{"b", "51234", ""})
	// Later operations must not change what was returned.
	third, _ := d.Read("a")
	names = d.List()
	third = append(third, '!')
	expect(t, "Append", d.Append("a", []byte("?")), api.OK)
	d.Crash(nil)
	expect(t, "Append", d.Append("a", []byte("xyzxyzxyz")), api.OK)
	expect(t, "Rename", d.Rename("b", "0"), api.OK)
	if string(third) != "12341234!" || !slices.Equal(names, []string{"a", "b"}) {
		t.Errorf("results became %q and %q", third, names)
	}
	expectFile(t, "after the results were appended to", d, "a", "12xyzxyzxyz")
}

// TestFilesShareNothing has files whose bytes come from one another.
func TestFilesShareNothing(t *testing.T) {
	d := made(t, 100, file{"a", "123", "456"})
	b, _ := d.Read("a")
	for _, name := range []string{"b", "c"} {
		expect(t, "Append", d.Append(name, b), api.OK)
	}
	d.Crash([]int{0, 2, 4})
	for _, name := range []string{"a", "b", "c"} {
		expect(t, "Append", d.Append(name, []byte(name)), api.OK)
	}
	expectFiles(t, "files", d, file{"a", "123a", ""}, file{"b", "12b", ""}, file{"c", "1234c", ""})
}

// TestDisksAreApart has two disks, of which one is used.
func TestDisksAreApart(t *testing.T) {
	used, other := some(t), some(t)
	was := look(other)
	for _, do := range operations() {
		do.do(used)
	}
	used.Fuse(0)
	used.Sync("b")
	used.Room(0)
	if is := look(other); is != was {
		t.Errorf("%s became %s", was, is)
	}
	expect(t, "the other disk", other.Sync("a"), api.OK)
}

func TestEmptySlicesAreLikeNil(t *testing.T) {
	for _, b := range [][]byte{nil, {}} {
		for _, kept := range [][]int{nil, {}} {
			d := some(t)
			expect(t, "Append", d.Append("a", b), api.OK)
			expect(t, "Append", d.Append("c", b), api.OK)
			expectFiles(t, "empty", d, file{"a", "12", "34"}, file{"b", "56", ""}, file{"c", "", ""})
			d.Crash(kept)
			expectFiles(t, "empty", d, file{"a", "12", ""}, file{"b", "56", ""}, file{"c", "", ""})
		}
	}
}

// TestCallsAtTheSameTime has goroutines with a disk each.
func TestCallsAtTheSameTime(t *testing.T) {
	var group sync.WaitGroup
	for i := range 8 {
		group.Go(func() {
			r := rand.New(rand.NewSource(int64(5 + i)))
			for range 200 {
				l := make([]deed, 30)
				for k := range l {
					l[k] = chosen(r)
				}
				d, _ := disk.New(30)
				j := judge(30)
				for _, x := range l {
					if e, want := x.do(d), x.do(j); e != want {
						t.Errorf("%s: error %d, want %d", x.name, e, want)
					}
				}
				if is, want := probe(d), probe(j); is != want {
					t.Errorf("%s, want %s", is, want)
				}
			}
		})
	}
	group.Wait()
}

// TestFullDisk has as many bytes as a disk may have.
func TestFullDisk(t *testing.T) {
	d, _ := disk.New(most)
	half := bytes.Repeat([]byte("ab"), most/4)
	expect(t, "half", d.Append("a", half), api.OK)
	expect(t, "Sync", d.Sync("a"), api.OK)
	expect(t, "one byte more", d.Append("b", make([]byte, most/2+1)), api.ErrFull)
	expect(t, "half", d.Append("b", half), api.OK)
	expectLeft(t, "full", d, 0)
	expect(t, "a byte", d.Append("a", []byte("x")), api.ErrFull)
	d.Crash([]int{0, 1})
	expectLeft(t, "after the crash", d, most/2-1)
	expectFile(t, "after the crash", d, "b", "a")
	if b, _ := d.Read("a"); !bytes.Equal(b, half) {
		t.Error("durable bytes are not there")
	}
}

// TestManyFiles would take long if each Append counted the bytes of all files.
func TestManyFiles(t *testing.T) {
	const many = 100000
	d, _ := disk.New(many)
	for i := range many {
		expect(t, "Append", d.Append(strconv.Itoa(i), []byte("x")), api.OK)
	}
	expectLeft(t, "many files", d, 0)
	expect(t, "one more", d.Append("a", []byte("x")), api.ErrFull)
	kept := make([]int, many/2)
	for i := range kept {
		kept[i] = 1
	}
	d.Crash(kept)
	expectLeft(t, "after the crash", d, many/2)
	names := d.List()
	if len(names) != many || !slices.IsSorted(names) {
		t.Fatal(len(names), "files")
	}
	for i, name := range names {
		if b, e := d.Read(name); e != api.OK || len(b) != map[bool]int{true: 1}[i < many/2] {
			t.Fatalf("Read(%q) = %q, %d", name, b, e)
		}
		expect(t, "Delete", d.Delete(name), api.OK)
	}
	expectLeft(t, "without files", d, many)
}

// TestManySmallBytes would take long if each Append copied its file.
func TestManySmallBytes(t *testing.T) {
	const many = 1 << 20
	d, _ := disk.New(many)
	for i := range many {
		if e := d.Append("a", []byte{byte(i)}); e != api.OK {
			t.Fatal(i, e)
		}
		if i%2 == 0 {
			d.Sync("a")
		}
	}
	expectLeft(t, "small bytes", d, 0)
	d.Crash(nil)
	expectLeft(t, "small bytes, after the crash", d, 1)
	b, _ := d.Read("a")
	for i, x := range b {
		if x != byte(i) {
			t.Fatal(i, x)
		}
	}
}

func TestImports(t *testing.T) {
	f, err := parser.ParseFile(token.NewFileSet(), "disk.go", nil, parser.ImportsOnly)
	if err != nil {
		t.Fatal(err)
	}
	for _, i := range f.Imports {
		if !slices.Contains([]string{`"maps"`, `"slices"`, `"tugger/api"`}, i.Path.Value) {
			t.Error("disk imports", i.Path.Value)
		}
	}
}

func BenchmarkAppend(b *testing.B) {
	d, _ := disk.New(most)
	x := make([]byte, 100)
	for b.Loop() {
		if d.Append("a", x) == api.ErrFull {
			d.Delete("a")
		}
		d.Sync("a")
	}
}

func BenchmarkCrash(b *testing.B) {
	d, _ := disk.New(most)
	for i := range 1000 {
		d.Append(strconv.Itoa(i), make([]byte, 100))
	}
	for b.Loop() {
		d.Crash(nil)
	}
}
