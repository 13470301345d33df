package state_test

import (
	"go/parser"
	"go/token"
	"math"
	"math/rand"
	"reflect"
	"slices"
	"strings"
	"sync"
	"testing"

	"tugger/api"
	"tugger/grid"
	"tugger/state"
)

const (
	most    = api.MostSide
	greatID = 1<<31 - 1
	letters = ".#SC><^v"
)

// absent are numbers that are no cells, robots or Ids of anything.
var absent = []int{math.MinInt, math.MinInt + 1, -most, -2, -1, most * most, most*most + 1, math.MaxInt - 1, math.MaxInt}

// parse returns the grid of a text, which must be one.
func parse(t testing.TB, s string) api.Grid {
	t.Helper()
	g, e := grid.Parse(s)
	if e != api.OK {
		t.Fatalf("Parse(%q): %d", s, e)
	}
	return g
}

// open returns a grid without walls that has the greatest sides.
func open() api.Grid {
	return api.Grid{W: most, H: most, Cells: strings.Repeat(".", most*most)}
}

// firsts returns the numbers below n.
func firsts(n int) []int {
	l := make([]int, n)
	for i := range l {
		l[i] = i
	}
	return l
}

func TestNew(t *testing.T) {
	g := parse(t, "..#C\nS>..\n")
	for _, c := range []struct {
		name  string
		cells []int
		e     api.Errno
	}{
		{"no cells", nil, api.OK},
		{"an empty slice", []int{}, api.OK},
		{"one cell", []int{0}, api.OK},
		{"the last cell", []int{7}, api.OK},
		{"a charger, a station and a one-way cell", []int{3, 4, 5}, api.OK},
		{"all cells, in no order", []int{7, 0, 6, 1, 5, 3, 4}, api.OK},
		{"a wall", []int{2}, api.ErrName},
		{"before the first cell", []int{-1}, api.ErrName},
		{"behind the last cell", []int{8}, api.ErrName},
		{"a wall behind others", []int{0, 1, 2}, api.ErrName},
		{"a cell twice", []int{0, 0}, api.ErrTwice},
		{"a cell twice, with others between", []int{6, 1, 0, 7, 6}, api.ErrTwice},
		{"a wall twice", []int{2, 2}, api.ErrName},
		{"no cell twice", []int{-1, -1}, api.ErrName},
		{"a wall, then a cell twice", []int{0, 2, 0}, api.ErrName},
		{"a cell twice, then a wall", []int{0, 0, 2}, api.ErrTwice},
		{"a cell twice, then no cell", []int{1, 0, 1, 8}, api.ErrTwice},
		{"no cell, then a cell twice", []int{1, 0, -1, 1}, api.ErrName},
	} {
		expectNew(t, c.name, g, c.cells, c.e)
	}
	for _, cell := range absent {
		expectNew(t, "a cell that does not exist", g, []int{0, cell}, api.ErrName)
	}
}

// expectNew reports what New returns other than the state of idle robots in cells, or a wanted error.
func expectNew(t *testing.T, name string, g api.Grid, cells []int, want api.Errno) {
	t.Helper()
	s, e := state.New(g, cells)
	if e != want {
		t.Errorf("%s: New(%.9v) returns %d, want %d", name, cells, e, want)
		return
	}
	if s.Tick != 0 || len(s.Tasks) != 0 || len(s.Blocked) != 0 || e != api.OK && len(s.Robots) != 0 {
		t.Errorf("%s: New(%.9v) = %.200v", name, cells, s)
	}
	if e != api.OK {
		return
	}
	if len(s.Robots) != len(cells) {
		t.Fatalf("%s: New(%.9v) has %d robots", name, cells, len(s.Robots))
	}
	for i, r := range s.Robots {
		if r != (api.Robot{Cell: cells[i], Battery: api.MostBattery}) {
			t.Errorf("%s: robot %d of New(%.9v) is %v", name, i, cells, r)
		}
	}
	if !state.Right(g, s) {
		t.Errorf("%s: New(%.9v) is not valid", name, cells)
	}
}

func TestNewOfManyCells(t *testing.T) {
	g := open()
	cells := firsts(api.MostRobots)
	expectNew(t, "just as many as can be", g, cells, api.OK)
	for name, more := range map[string]int{"one more": api.MostRobots, "one more, twice": 0, "one more, no cell": -1} {
		expectNew(t, name, g, append(slices.Clone(cells), more), api.ErrMany)
	}
	cells[0] = -1
	expectNew(t, "just as many, the first no cell", g, cells, api.ErrName)
	expectNew(t, "one more, the first no cell", g, append(slices.Clone(cells), api.MostRobots), api.ErrMany)
	expectNew(t, "one more, all one cell", g, make([]int, api.MostRobots+1), api.ErrMany)
	expectNew(t, "just as many, all one cell", g, make([]int, api.MostRobots), api.ErrTwice)
	cells[0], cells[api.MostRobots-1] = 0, 0
	expectNew(t, "just as many, the last one twice", g, cells, api.ErrTwice)
}

// The base grid and the base state, whose parts the tests below turn:
//
//	0  1  2#  3C
//	4S 5> 6   7
//	8  9# 10C 11
const baseText = "..#C\nS>..\n.#C.\n"

func base() api.State {
	return api.State{
		Tick: 77,
		Robots: []api.Robot{
			{Cell: 0, Mode: api.Fetching, Task: 5, Battery: 900},
			{Cell: 4, Mode: api.Carrying, Task: 9, Battery: 1, Hold: 2},
			{Cell: 7, Mode: api.Charging, Battery: 40},
			{Cell: 8, Mode: api.Faulted, Task: 6, Battery: 0, Hold: 1000},
			{Cell: 1, Mode: api.Faulted, Battery: 1000},
			{Cell: 11, Mode: api.Idle, Battery: 500},
		},
		Tasks: []api.Task{
			{Id: 5, From: 1, To: 6, State: api.Taken, Robot: 0},
			{Id: 2, From: 0, To: 11, State: api.Waiting, Robot: -1},
			{Id: 9, From: 6, To: 1, State: api.Carried, Robot: 1},
			{Id: 3, From: 3, To: 4, State: api.Done, Robot: 5},
			{Id: 6, From: 10, To: 5, State: api.Carried, Robot: 3},
		},
		Blocked: []int{3, 5, 8, 11},
	}
}

// turn changes a part of the base state; valid says whether it is still valid then.
type turn struct {
	name  string
	part  func(s *api.State)
	valid bool
}

// expectTurns reports each turn of the base state of which Right does not report what is wanted.
func expectTurns(t *testing.T, turns []turn) {
	t.Helper()
	g := parse(t, baseText)
	if !state.Right(g, base()) {
		t.Fatal("the base state is not valid")
	}
	for _, c := range turns {
		s := base()
		c.part(&s)
		if state.Right(g, s) != c.valid {
			t.Errorf("%s: Right is %t: %v", c.name, !c.valid, s)
		}
		if valid(g, s) != c.valid {
			t.Errorf("%s: the test's own judgment is %t: %v", c.name, !c.valid, s)
		}
	}
}

func TestRightOfTheTick(t *testing.T) {
	for tick, valid := range map[int]bool{
		0: true, 1: true, greatID - 1: true, greatID: true,
		-1: false, greatID + 1: false, math.MinInt: false, math.MaxInt: false, 1 << 32: false, -greatID: false,
	} {
		expectTurns(t, []turn{{"tick", func(s *api.State) { s.Tick = tick }, valid}})
	}
}

func TestRightOfRobots(t *testing.T) {
	robot := func(name string, i int, f func(r *api.Robot), valid bool) turn {
		return turn{name, func(s *api.State) { f(&s.Robots[i]) }, valid}
	}
	cell := func(name string, i, cell int, valid bool) turn {
		return robot(name, i, func(r *api.Robot) { r.Cell = cell }, valid)
	}
	turns := []turn{
		cell("another cell", 0, 6, true),
		cell("a blocked cell", 0, 5, true),
		cell("a charger", 5, 10, true),
		cell("a wall", 0, 2, false),
		cell("another wall", 5, 9, false),
		cell("behind the last cell", 5, 12, false),
		cell("before the first cell", 0, -1, false),
		cell("the cell of the one before", 1, 0, false),
		cell("the cell of the last one", 0, 11, false),
		cell("the cell of the first one", 5, 0, false),
		cell("the cell of one between", 2, 8, false),
	}
	for _, n := range absent {
		turns = append(turns, cell("no cell", 3, n, false))
	}
	for n, valid := range map[int]bool{0: true, 1: true, 999: true, 1000: true, -1: false, 1001: false, math.MinInt: false, math.MaxInt: false} {
		for i := range base().Robots {
			turns = append(turns,
				robot("battery", i, func(r *api.Robot) { r.Battery = n }, valid),
				robot("hold", i, func(r *api.Robot) { r.Hold = n }, valid))
		}
	}
	for _, mode := range append([]int{5, 6}, absent...) {
		for i := range base().Robots {
			turns = append(turns, robot("a mode that does not exist", i, func(r *api.Robot) { r.Mode = mode }, false))
		}
	}
	expectTurns(t, turns)
}

func TestRightOfTasks(t *testing.T) {
	task := func(name string, i int, f func(x *api.Task), valid bool) turn {
		return turn{name, func(s *api.State) { f(&s.Tasks[i]) }, valid}
	}
	// Task 1 is the waiting one, and task 3 the done one: no robot names their Ids.
	turns := []turn{
		task("the same Id as the first one", 1, func(x *api.Task) { x.Id = 5 }, false),
		task("the same Id as the last one", 3, func(x *api.Task) { x.Id = 6 }, false),
		task("the same Id as the done one", 1, func(x *api.Task) { x.Id = 3 }, false),
		task("from and to one cell", 1, func(x *api.Task) { x.From = x.To }, false),
		task("to and from one cell", 4, func(x *api.Task) { x.To = x.From }, false),
		task("from and to one wall", 1, func(x *api.Task) { x.From, x.To = 2, 2 }, false),
		task("from a wall", 0, func(x *api.Task) { x.From = 2 }, false),
		task("to a wall", 0, func(x *api.Task) { x.To = 9 }, false),
		task("from a wall to a wall", 3, func(x *api.Task) { x.From, x.To = 2, 9 }, false),
		task("from behind the last cell", 1, func(x *api.Task) { x.From = 12 }, false),
		task("to behind the last cell", 1, func(x *api.Task) { x.To = 12 }, false),
		task("the way back", 2, func(x *api.Task) { x.From, x.To = x.To, x.From }, true),
		task("the same cells as another one", 2, func(x *api.Task) { x.From, x.To = 1, 6 }, true),
		task("from and to blocked cells", 1, func(x *api.Task) { x.From, x.To = 8, 5 }, true),
	}
	for _, n := range absent {
		turns = append(turns,
			task("from no cell", 4, func(x *api.Task) { x.From = n }, false),
			task("to no cell", 4, func(x *api.Task) { x.To = n }, false))
	}
	for id, valid := range map[int]bool{
		1: true, 4: true, greatID: true, greatID - 1: true,
		0: false, -1: false, greatID + 1: false, 1 << 32: false, math.MinInt: false, math.MaxInt: false,
	} {
		turns = append(turns,
			task("Id", 1, func(x *api.Task) { x.Id = id }, valid),
			task("Id", 3, func(x *api.Task) { x.Id = id }, valid),
			turn{"Id of a task that is taken", func(s *api.State) { s.Tasks[0].Id, s.Robots[0].Task = id, id }, valid},
			turn{"Id of a task that is carried", func(s *api.State) { s.Tasks[4].Id, s.Robots[3].Task = id, id }, valid})
	}
	for _, n := range append([]int{0, 5, 6}, absent...) {
		for i := range base().Tasks {
			turns = append(turns, task("a state that does not exist", i, func(x *api.Task) { x.State = n }, false))
		}
	}
	expectTurns(t, turns)
}

func TestRightOfBlockedCells(t *testing.T) {
	for _, c := range []struct {
		blocked []int
		valid   bool
	}{
		{nil, true}, {[]int{}, true}, {[]int{0}, true}, {[]int{11}, true}, {[]int{0, 1, 3, 4, 5, 6, 7, 8, 10, 11}, true},
		{[]int{2}, false}, {[]int{1, 2, 3}, false}, {[]int{8, 9}, false}, {[]int{12}, false}, {[]int{11, 12}, false},
		{[]int{-1}, false}, {[]int{-1, 0}, false}, {[]int{3, 1}, false}, {[]int{1, 1}, false}, {[]int{0, 1, 3, 3}, false},
		{[]int{0, 4, 3, 5}, false}, {[]int{1, 0, 3}, false}, {[]int{0, 3, 1}, false}, {[]int{4, 5, 4}, false},
	} {
		expectTurns(t, []turn{{"blocked cells", func(s *api.State) { s.Blocked = c.blocked }, c.valid}})
	}
	for _, n := range absent {
		expectTurns(t, []turn{
			{"a blocked cell that does not exist", func(s *api.State) { s.Blocked = []int{n} }, false},
			{"a blocked cell that does not exist, last", func(s *api.State) { s.Blocked[3] = n }, false},
			{"a blocked cell that does not exist, first", func(s *api.State) { s.Blocked[0] = n }, false},
		})
	}
}

func TestRightOfManyRobotsAndTasks(t *testing.T) {
	g := open()
	s, _ := state.New(g, firsts(api.MostRobots))
	for i := range api.MostTasks {
		s.Tasks = append(s.Tasks, api.Task{Id: 2*i + 1, From: i, To: i + 1, State: api.Done, Robot: api.MostRobots - 1})
	}
	s.Blocked = firsts(most * most)
	if !state.Right(g, s) {
		t.Error("as many of all as can be: not valid")
	}
	more := state.Copy(s)
	more.Robots = append(more.Robots, api.Robot{Cell: api.MostRobots})
	if state.Right(g, more) {
		t.Error("a robot more: valid")
	}
	more = state.Copy(s)
	more.Tasks = append(more.Tasks, api.Task{Id: 2, From: 0, To: 1, State: api.Waiting, Robot: -1})
	if state.Right(g, more) {
		t.Error("a task more: valid")
	}
	more = state.Copy(s)
	more.Tasks[api.MostTasks-1].Id = 1
	if state.Right(g, more) {
		t.Error("the last task has the Id of the first one: valid")
	}
	more = state.Copy(s)
	more.Robots[api.MostRobots-1].Cell = 0
	if state.Right(g, more) {
		t.Error("the last robot is in the cell of the first one: valid")
	}
	if !state.Right(parse(t, "#\n"), api.State{}) {
		t.Error("a state of nothing: not valid")
	}
}

// TestRightOfModesAndTheirTasks takes each mode of robot 0 with each state of the task that it names, which belongs to
// it (Robot 0), to the other robot (Robot 1), or to none.
func TestRightOfModesAndTheirTasks(t *testing.T) {
	g := parse(t, "...\n")
	for mode := -1; mode <= 5; mode++ {
		isMode := 0 <= mode && mode <= 4
		for of := range 6 {
			for robot := -2; robot <= 2; robot++ {
				s := api.State{
					Robots: []api.Robot{{Cell: 0, Mode: mode, Task: 7}, {Cell: 1}},
					Tasks:  []api.Task{{Id: 7, From: 0, To: 2, State: of, Robot: robot}},
				}
				want := robot == 0 && (mode == api.Fetching && of == api.Taken || mode == api.Carrying && of == api.Carried || mode == api.Faulted && of == api.Carried)
				if state.Right(g, s) != want {
					t.Errorf("mode %d with a task of state %d and Robot %d: Right is %t", mode, of, robot, !want)
				}
				s.Robots[0].Task = 0
				idle := isMode && mode != api.Fetching && mode != api.Carrying
				want = idle && (of == api.Waiting && robot == -1 || of == api.Done && (robot == 0 || robot == 1))
				if state.Right(g, s) != want {
					t.Errorf("mode %d without a task, a task of state %d and Robot %d: Right is %t", mode, of, robot, !want)
				}
			}
		}
		for _, id := range append([]int{1, 6, 8, greatID}, absent...) {
			s := api.State{
				Robots: []api.Robot{{Cell: 0, Mode: mode, Task: id}},
				Tasks:  []api.Task{{Id: 7, From: 0, To: 2, State: api.Waiting, Robot: -1}},
			}
			if state.Right(g, s) {
				t.Errorf("mode %d with Task %d, which does not exist: valid", mode, id)
			}
		}
	}
}

func TestRightOfTasksAndTheirRobots(t *testing.T) {
	var turns []turn
	// The task at each index with each robot; -1 is none.
	fits := [][]int{{0}, {-1}, {1}, {0, 1, 2, 3, 4, 5}, {3}}
	for i, robots := range fits {
		for _, robot := range append([]int{0, 1, 2, 3, 4, 5, 6, 7}, absent...) {
			turns = append(turns, turn{"robot of a task", func(s *api.State) { s.Tasks[i].Robot = robot }, slices.Contains(robots, robot)})
		}
	}
	turns = append(turns,
		turn{"two robots with one task that is taken", func(s *api.State) { s.Robots[5].Mode, s.Robots[5].Task = api.Fetching, 5 }, false},
		turn{"two robots with one task that is carried", func(s *api.State) { s.Robots[4].Task = 6 }, false},
		turn{"two robots exchange their tasks", func(s *api.State) { s.Robots[1].Task, s.Robots[3].Task = 6, 9 }, false},
		turn{"two robots exchange their tasks, which follow", func(s *api.State) {
			s.Robots[1].Task, s.Robots[3].Task = 6, 9
			s.Tasks[2].Robot, s.Tasks[4].Robot = 3, 1
		}, true},
		turn{"a robot goes on with its task", func(s *api.State) { s.Robots[0].Mode, s.Tasks[0].State = api.Carrying, api.Carried }, true},
		turn{"a robot whose task is done has it no longer", func(s *api.State) {
			s.Robots[1].Mode, s.Robots[1].Task, s.Tasks[2].State = api.Idle, 0, api.Done
		}, true},
		turn{"a robot whose task is done has it still", func(s *api.State) { s.Tasks[2].State = api.Done }, false},
		turn{"a robot whose task waits has it still", func(s *api.State) { s.Tasks[2].State, s.Tasks[2].Robot = api.Waiting, -1 }, false},
		turn{"a robot with two tasks", func(s *api.State) { s.Tasks[1].State, s.Tasks[1].Robot = api.Carried, 1 }, false},
		turn{"no tasks any more, but robots with tasks", func(s *api.State) { s.Tasks = nil }, false},
		turn{"no robots any more, but tasks with robots", func(s *api.State) { s.Robots = nil }, false},
		turn{"no robots, and a task that waits", func(s *api.State) { s.Robots, s.Tasks = nil, s.Tasks[1:2] }, true},
		turn{"no robots, and a task that is done", func(s *api.State) { s.Robots, s.Tasks = nil, s.Tasks[3:4] }, false},
		turn{"the tasks in another order", func(s *api.State) { slices.Reverse(s.Tasks) }, true},
		turn{"the robots in another order", func(s *api.State) { slices.Reverse(s.Robots) }, false},
		turn{"robots that fetch a task that waits", func(s *api.State) { s.Robots[5].Mode, s.Robots[5].Task = api.Fetching, 2 }, false},
	)
	expectTurns(t, turns)
}

// valid is the test's own judgment of a state, by the lines of the chapter.
func valid(g api.Grid, s api.State) bool {
	floor := func(cell int) bool { return cell >= 0 && cell < g.W*g.H && g.Cells[cell] != '#' }
	wrong := s.Tick < 0 || s.Tick >= 1<<31 || len(s.Robots) > 1024 || len(s.Tasks) > 1000
	for i, r := range s.Robots {
		wrong = wrong || !floor(r.Cell) || r.Battery < 0 || r.Battery > 1000 || r.Hold < 0 || r.Hold > 1000 || r.Mode < 0 || r.Mode > 4
		for _, other := range s.Robots[:i] {
			wrong = wrong || other.Cell == r.Cell
		}
		of := 0
		for _, x := range s.Tasks {
			if r.Task != 0 && x.Id == r.Task {
				of = x.State
				wrong = wrong || x.Robot != i
			}
		}
		wrong = wrong || r.Task != 0 && of == 0
		wrong = wrong || (r.Mode == api.Idle || r.Mode == api.Charging) && r.Task != 0
		wrong = wrong || r.Mode == api.Fetching && of != api.Taken || r.Mode == api.Carrying && of != api.Carried
		wrong = wrong || r.Mode == api.Faulted && r.Task != 0 && of != api.Carried
	}
	for i, x := range s.Tasks {
		wrong = wrong || x.Id < 1 || x.Id >= 1<<31 || !floor(x.From) || !floor(x.To) || x.From == x.To || x.State < 1 || x.State > 4
		for _, other := range s.Tasks[:i] {
			wrong = wrong || other.Id == x.Id
		}
		exists := x.Robot >= 0 && x.Robot < len(s.Robots)
		wrong = wrong || x.State == api.Waiting && x.Robot != -1 || x.State != api.Waiting && !exists
		wrong = wrong || (x.State == api.Taken || x.State == api.Carried) && exists && s.Robots[x.Robot].Task != x.Id
	}
	for i, cell := range s.Blocked {
		wrong = wrong || !floor(cell) || i > 0 && s.Blocked[i-1] >= cell
	}
	return !wrong
}

func TestRightOfAllPairsOfRobotsAndTasks(t *testing.T) {
	g := parse(t, "..\n")
	found := 0
	for n := range 5 * 3 * 5 * 3 * 4 * 3 * 4 * 3 {
		pick := func(from, to int) int {
			size := to - from + 1
			k := n % size
			n /= size
			return from + k
		}
		s := api.State{
			Robots: []api.Robot{{Cell: 0, Mode: pick(0, 4), Task: pick(0, 2)}, {Cell: 1, Mode: pick(0, 4), Task: pick(0, 2)}},
			Tasks: []api.Task{
				{Id: 1, From: 0, To: 1, State: pick(1, 4), Robot: pick(-1, 1)},
				{Id: 2, From: 1, To: 0, State: pick(1, 4), Robot: pick(-1, 1)},
			},
		}
		want := valid(g, s)
		if state.Right(g, s) != want {
			t.Fatalf("Right is %t: %v", !want, s)
		}
		if want {
			found++
		}
	}
	if found == 0 {
		t.Error("no valid state among them")
	}
}

// chosenGrid returns a valid grid with letters among some, as r chooses.
func chosenGrid(r *rand.Rand, w, h int, among string) api.Grid {
	b := make([]byte, w*h)
	for i := range b {
		b[i] = among[r.Intn(len(among))]
	}
	return api.Grid{W: w, H: h, Cells: string(b)}
}

// floors returns the cells of a grid that are not walls, in an order that r chooses.
func floors(r *rand.Rand, g api.Grid) []int {
	var l []int
	for _, cell := range r.Perm(len(g.Cells)) {
		if g.Cells[cell] != '#' {
			l = append(l, cell)
		}
	}
	return l
}

// chosenState returns a valid state with parts of all kinds, as r chooses.
func chosenState(r *rand.Rand, g api.Grid) api.State {
	s := api.State{Tick: r.Intn(1 << 31)}
	cells := floors(r, g)
	for _, cell := range cells[:r.Intn(len(cells)+1)] {
		s.Robots = append(s.Robots, api.Robot{Cell: cell, Mode: r.Intn(5), Battery: r.Intn(1001), Hold: max(0, r.Intn(2000)-999)})
	}
	if len(cells) > 1 {
		ids := r.Perm(3*len(s.Robots) + 9)
		add := func(of, robot int) int {
			ends := r.Perm(len(cells))
			s.Tasks = append(s.Tasks, api.Task{Id: ids[0] + 1, From: cells[ends[0]], To: cells[ends[1]], State: of, Robot: robot})
			ids = ids[1:]
			return s.Tasks[len(s.Tasks)-1].Id
		}
		for i := range s.Robots {
			if mode := s.Robots[i].Mode; mode == api.Fetching {
				s.Robots[i].Task = add(api.Taken, i)
			} else if mode == api.Carrying || mode == api.Faulted && r.Intn(2) == 0 {
				s.Robots[i].Task = add(api.Carried, i)
			}
			if r.Intn(2) == 0 {
				add(api.Done, i)
			}
		}
		for range r.Intn(4) {
			add(api.Waiting, -1)
		}
		r.Shuffle(len(s.Tasks), func(i, j int) { s.Tasks[i], s.Tasks[j] = s.Tasks[j], s.Tasks[i] })
	} else {
		for i := range s.Robots {
			s.Robots[i].Mode = api.Idle
		}
	}
	s.Blocked = floors(r, g)[:r.Intn(len(cells)+1)]
	slices.Sort(s.Blocked)
	return s
}

// numbersOf returns the places of all numbers of a state.
func numbersOf(s *api.State) []*int {
	l := []*int{&s.Tick}
	for i := range s.Robots {
		r := &s.Robots[i]
		l = append(l, &r.Cell, &r.Mode, &r.Task, &r.Battery, &r.Hold)
	}
	for i := range s.Tasks {
		x := &s.Tasks[i]
		l = append(l, &x.Id, &x.From, &x.To, &x.State, &x.Robot)
	}
	for i := range s.Blocked {
		l = append(l, &s.Blocked[i])
	}
	return l
}

// samples calls f with valid states of grids of many sides, the same ones each time.
func samples(f func(r *rand.Rand, g api.Grid, s api.State)) {
	r := rand.New(rand.NewSource(1))
	for _, among := range []string{"...S", "....C#", letters + "....", "..C><^v"} {
		for range 200 {
			g := chosenGrid(r, 1+r.Intn(5), 1+r.Intn(5), among)
			f(r, g, chosenState(r, g))
		}
	}
}

func TestRightOfStatesWithOneOtherNumber(t *testing.T) {
	still := 0
	samples(func(r *rand.Rand, g api.Grid, s api.State) {
		if !state.Right(g, s) {
			t.Fatalf("not valid: %v %v", g, s)
		}
		for i, p := range numbersOf(&s) {
			was := *p
			others := []int{-2, -1, 0, 1, 2, 3, 4, 5, was - 1, was + 1, 1000, 1001, len(g.Cells), greatID, greatID + 1, math.MinInt, math.MaxInt}
			for _, n := range others {
				*p = n
				want := valid(g, s)
				if state.Right(g, s) != want {
					t.Fatalf("number %d is %d instead of %d: Right is %t: %v %v", i, n, was, !want, g, s)
				}
				if want && n != was {
					still++
				}
			}
			*p = was
		}
	})
	if still == 0 {
		t.Error("no other number was valid")
	}
}

func TestNewIsValid(t *testing.T) {
	r := rand.New(rand.NewSource(2))
	for range 500 {
		g := chosenGrid(r, 1+r.Intn(6), 1+r.Intn(6), letters)
		cells := floors(r, g)
		cells = cells[:r.Intn(len(cells)+1)]
		s, e := state.New(g, cells)
		if e != api.OK || !state.Right(g, s) || !valid(g, s) {
			t.Fatalf("New(%v, %v) = %v, %d", g, cells, s, e)
		}
	}
}

func TestNewTellsTheFirstWrongCell(t *testing.T) {
	r := rand.New(rand.NewSource(3))
	found := map[api.Errno]int{}
	for range 3000 {
		g := chosenGrid(r, 1+r.Intn(5), 1+r.Intn(5), "........#")
		cells := make([]int, r.Intn(6))
		for i := range cells {
			cells[i] = r.Intn(len(g.Cells)+2) - 1
		}
		want := api.OK
		for i, cell := range cells {
			if cell < 0 || cell >= len(g.Cells) || g.Cells[cell] == '#' {
				want = api.ErrName
				break
			}
			if slices.Contains(cells[:i], cell) {
				want = api.ErrTwice
				break
			}
		}
		found[want]++
		expectNew(t, "chosen cells", g, cells, want)
	}
	if len(found) != 3 {
		t.Error("not each error came up:", found)
	}
}

func TestExchangedCellsAreValid(t *testing.T) {
	exchange := func(g api.Grid, s api.State) {
		for i := range s.Robots {
			for j := range i {
				other := state.Copy(s)
				other.Robots[i].Cell, other.Robots[j].Cell = s.Robots[j].Cell, s.Robots[i].Cell
				if !state.Right(g, other) {
					t.Fatalf("%d and %d exchanged: not valid: %v %v", i, j, g, s)
				}
			}
		}
	}
	exchange(parse(t, baseText), base())
	samples(func(r *rand.Rand, g api.Grid, s api.State) { exchange(g, s) })
}

func TestSame(t *testing.T) {
	if !state.Same(base(), base()) || !state.Same(api.State{}, api.State{}) {
		t.Error("equal states differ")
	}
	s := base()
	for i, p := range numbersOf(&s) {
		for _, by := range []int{1, -1, 1 << 40} {
			*p += by
			if state.Same(s, base()) || state.Same(base(), s) {
				t.Errorf("number %d changed by %d: the same", i, by)
			}
			*p -= by
		}
	}
	if !state.Same(s, base()) {
		t.Error("changed back: not the same")
	}
	for i, change := range []func(s *api.State){
		func(s *api.State) { s.Robots = s.Robots[:5] },
		func(s *api.State) { s.Robots = s.Robots[1:] },
		func(s *api.State) { s.Robots = nil },
		func(s *api.State) { s.Robots = append(s.Robots, api.Robot{}) },
		func(s *api.State) { s.Robots[0], s.Robots[1] = s.Robots[1], s.Robots[0] },
		func(s *api.State) { s.Tasks = s.Tasks[:4] },
		func(s *api.State) { s.Tasks = s.Tasks[1:] },
		func(s *api.State) { s.Tasks = nil },
		func(s *api.State) { s.Tasks = append(s.Tasks, api.Task{}) },
		func(s *api.State) { s.Tasks[3], s.Tasks[4] = s.Tasks[4], s.Tasks[3] },
		func(s *api.State) { s.Blocked = s.Blocked[:3] },
		func(s *api.State) { s.Blocked = s.Blocked[1:] },
		func(s *api.State) { s.Blocked = nil },
		func(s *api.State) { s.Blocked = append(s.Blocked, 0) },
		func(s *api.State) { s.Blocked[0], s.Blocked[1] = s.Blocked[1], s.Blocked[0] },
	} {
		s := base()
		change(&s)
		if state.Same(s, base()) || state.Same(base(), s) {
			t.Errorf("change %d: the same", i)
		}
	}
}

func TestSameOfNilAndEmptySlices(t *testing.T) {
	empty := api.State{Robots: []api.Robot{}, Tasks: []api.Task{}, Blocked: []int{}}
	if !state.Same(empty, api.State{}) || !state.Same(api.State{}, empty) || !state.Same(empty, empty) {
		t.Error("nil and empty slices differ")
	}
	empty.Tick = 1
	if state.Same(empty, api.State{}) {
		t.Error("different ticks with empty slices: the same")
	}
	// States that are not valid are compared too.
	a := api.State{Tick: -1, Robots: []api.Robot{{}, {}}, Blocked: []int{9, 9, -3}}
	if !state.Same(a, state.Copy(a)) || !state.Same(a, a) {
		t.Error("a state that is not valid differs from itself")
	}
}

func TestCopy(t *testing.T) {
	s := base()
	c := state.Copy(s)
	if !reflect.DeepEqual(c, base()) {
		t.Fatalf("Copy = %v", c)
	}
	for i := range numbersOf(&s) {
		of, other := base(), base()
		c = state.Copy(of)
		*numbersOf(&c)[i]++
		if !reflect.DeepEqual(of, other) {
			t.Errorf("number %d of the copy changed the original", i)
		}
		c = state.Copy(of)
		*numbersOf(&of)[i]++
		if !reflect.DeepEqual(c, other) {
			t.Errorf("number %d of the original changed the copy", i)
		}
	}
	for _, s := range []api.State{{}, {Tick: 3, Robots: []api.Robot{}, Tasks: []api.Task{}, Blocked: []int{}}, {Tick: -3, Blocked: []int{2, 2, -1}}} {
		if c := state.Copy(s); !state.Same(c, s) || c.Tick != s.Tick {
			t.Errorf("Copy(%v) = %v", s, c)
		}
	}
}

// TestCopyHasRoomOfItsOwn appends to parts of a state, of which the slices have room for more.
func TestCopyHasRoomOfItsOwn(t *testing.T) {
	whole := base()
	part := api.State{Robots: whole.Robots[:0], Tasks: whole.Tasks[:2], Blocked: whole.Blocked[:1]}
	c, d := state.Copy(part), state.Copy(part)
	c.Robots = append(c.Robots, api.Robot{Cell: 99})
	c.Tasks = append(c.Tasks, api.Task{Id: 99})
	c.Blocked = append(c.Blocked, 99)
	if !reflect.DeepEqual(whole, base()) || len(d.Robots) != 0 || len(d.Tasks) != 2 || len(d.Blocked) != 1 {
		t.Error("what was appended to a copy is in the original, or in another copy")
	}
	if c.Robots[0].Cell != 99 || c.Tasks[2].Id != 99 || c.Blocked[1] != 99 {
		t.Error("the copy has not what was appended")
	}
}

func TestFind(t *testing.T) {
	s := base()
	for id, want := range map[int]int{5: 0, 2: 1, 9: 2, 3: 3, 6: 4, 0: -1, 1: -1, 4: -1, 7: -1, -5: -1, greatID: -1} {
		if i := state.Find(s, id); i != want {
			t.Errorf("Find(%d) = %d, want %d", id, i, want)
		}
	}
	for _, id := range absent {
		if i := state.Find(s, id); i != -1 {
			t.Errorf("Find(%d) = %d", id, i)
		}
	}
	if i := state.Find(api.State{Robots: s.Robots}, 5); i != -1 {
		t.Error("Find without tasks:", i)
	}
	// These states are not valid; the first task counts all the same.
	s.Tasks[1].Id, s.Tasks[3].Id, s.Tasks[4].Id = 9, 9, 0
	if i := state.Find(s, 9); i != 1 {
		t.Error("Find of an Id that is there three times:", i)
	}
	if i := state.Find(s, 0); i != 4 {
		t.Error("Find of the Id 0:", i)
	}
	s.Tasks[4].Id = -7
	if i := state.Find(s, -7); i != 4 {
		t.Error("Find of the Id -7:", i)
	}
}

// expectGoal reports a goal other than wanted; a wanted cell of -1 is none.
func expectGoal(t *testing.T, name string, g api.Grid, s api.State, robot, want int) {
	t.Helper()
	to, is := state.Goal(g, s, robot)
	if want < 0 {
		if is || to != 0 {
			t.Errorf("%s: Goal of %d is %d, %t, want none", name, robot, to, is)
		}
	} else if !is || to != want {
		t.Errorf("%s: Goal of %d is %d, %t, want %d", name, robot, to, is, want)
	}
}

func TestGoalOfEachMode(t *testing.T) {
	g, s := parse(t, baseText), base()
	s.Robots[1].Hold = 0
	for robot, want := range []int{1, 1, 10, -1, -1, -1, -1} {
		expectGoal(t, "base", g, s, robot, want)
	}
	for _, robot := range absent {
		expectGoal(t, "no robot", g, s, robot, -1)
	}
	expectGoal(t, "no robots", g, api.State{}, 0, -1)
	s.Robots[3].Battery, s.Robots[3].Hold = 1000, 0
	expectGoal(t, "a faulted one with a task", g, s, 3, -1)
	// From and To that are blocked, and that cannot be reached, are goals all the same.
	s.Tasks[0].From, s.Tasks[2].To = 5, 8
	s.Blocked = []int{0, 1, 3, 4, 5, 6, 7, 8, 10, 11}
	expectGoal(t, "a blocked From", g, s, 0, 5)
	expectGoal(t, "a blocked To", g, s, 1, 8)
	expectGoal(t, "a task of cell 0", g, api.State{
		Robots: []api.Robot{{Cell: 1, Mode: api.Fetching, Task: 1, Battery: 1}},
		Tasks:  []api.Task{{Id: 1, From: 0, To: 1, State: api.Taken, Robot: 0}},
	}, 0, 0)
	expectGoal(t, "already at From", g, api.State{
		Robots: []api.Robot{{Cell: 7, Mode: api.Fetching, Task: 1, Battery: 1}},
		Tasks:  []api.Task{{Id: 1, From: 7, To: 1, State: api.Taken, Robot: 0}},
	}, 0, 7)
}

func TestGoalOfOneThatIsHeldOrHasNoBattery(t *testing.T) {
	g := parse(t, baseText)
	goals := []int{1, 1, 10, -1, -1, -1}
	for robot, goal := range goals {
		for _, c := range []struct {
			hold, battery int
			goes          bool
		}{
			{0, 1, true}, {0, 1000, true}, {0, 99, true},
			{1, 1, false}, {1000, 1000, false}, {1, 1000, false}, {0, 0, false}, {1, 0, false}, {1000, 0, false},
		} {
			s := base()
			s.Robots[robot].Hold, s.Robots[robot].Battery = c.hold, c.battery
			want := goal
			if !c.goes {
				want = -1
			}
			expectGoal(t, "held or without battery", g, s, robot, want)
		}
	}
}

func TestGoalOfOneThatCharges(t *testing.T) {
	//     0  1  2  3  4
	//     5  6  7  8  9
	//     10 11 12 13 14
	for _, c := range []struct {
		name    string
		text    string
		cell    int
		blocked []int
		want    int
	}{
		{"one charger", ".....\n.....\n....C\n", 0, nil, 14},
		{"the first cell is the charger", "C....\n.....\n.....\n", 14, nil, 0},
		{"on a charger", "C....\n.C...\n.....\n", 6, nil, 6},
		{"on a blocked charger", "C....\n.C...\n.....\n", 6, []int{6}, 6},
		{"the nearer one, with the greater number", "C....\n.....\n..C..\n", 13, nil, 12},
		{"several at one distance", "..C..\n.C.C.\n..C..\n", 7, nil, 2},
		{"several at one distance, the least one blocked", "..C..\n.C.C.\n..C..\n", 7, []int{2}, 6},
		{"several at one distance, all but the last blocked", "..C..\n.C.C.\n..C..\n", 7, []int{2, 6, 8}, 12},
		{"several at one distance, all blocked", "..C..\n.C.C.\n..C..\n", 7, []int{2, 6, 8, 12}, -1},
		{"the nearest one shut off", ".C...\n.....\nC....\n", 0, []int{1}, 10},
		{"the nearest one only by a detour", "..C..\n.....\n..C..\n", 0, []int{1, 7, 11}, -1},
		{"a detour makes another one nearer", "..C..\n.....\nC....\n", 0, []int{1}, 10},
		{"no charger", ".S...\n.....\n.....\n", 0, nil, -1},
		{"the charger behind walls", "...#.\n...#.\n...#C\n", 0, nil, -1},
		{"the charger behind blocked cells", ".....\n.....\n....C\n", 0, []int{2, 7, 12}, -1},
		{"all neighbours blocked", ".....\n.....\n....C\n", 0, []int{1, 5}, -1},
		{"out of a blocked cell", ".....\n.....\n....C\n", 0, []int{0}, 14},
		{"against a one-way cell", "C.>..\n##.##\n....C\n", 2, nil, -1},
		{"along a one-way cell", "C.>.C\n#####\n.....\n", 2, nil, 4},
		{"into a one-way cell and on", "..vC.\n.....\n..C..\n", 1, nil, 12},
	} {
		g := parse(t, c.text)
		s := api.State{Robots: []api.Robot{{Cell: c.cell, Mode: api.Charging, Battery: 5}}, Blocked: c.blocked}
		if !state.Right(g, s) {
			t.Errorf("%s: not valid", c.name)
		}
		expectGoal(t, c.name, g, s, 0, c.want)
		s.Robots[0].Battery = 0
		expectGoal(t, c.name+", without battery", g, s, 0, -1)
	}
}

// nearest is the test's own nearest charger: it looks at all cells, and then takes those that are a step further. None is
// -1.
func nearest(g api.Grid, from int, blocked []int) int {
	reached := map[int]bool{from: true}
	for range len(g.Cells) {
		further := map[int]bool{}
		for cell := range len(g.Cells) {
			if !reached[cell] {
				continue
			}
			if g.Cells[cell] == 'C' {
				return cell
			}
			for _, way := range grid.Ways(g, cell) {
				if to, _ := grid.Goes(g, cell, way); to == cell || !slices.Contains(blocked, to) {
					further[to] = true
				}
			}
		}
		reached = further
	}
	return -1
}

func TestGoalOfValidStates(t *testing.T) {
	charging := 0
	samples(func(r *rand.Rand, g api.Grid, s api.State) {
		for i, x := range s.Robots {
			want := -1
			if x.Mode == api.Charging {
				want = nearest(g, x.Cell, s.Blocked)
			}
			for _, task := range s.Tasks {
				if task.Id == x.Task && x.Mode == api.Fetching {
					want = task.From
				} else if task.Id == x.Task && x.Mode == api.Carrying {
					want = task.To
				}
			}
			if x.Mode == api.Charging && want >= 0 {
				charging++
			}
			if x.Hold != 0 || x.Battery == 0 {
				want = -1
			}
			expectGoal(t, "a valid state", g, s, i, want)
		}
		if t.Failed() {
			t.Fatalf("%v %v", g, s)
		}
	})
	if charging == 0 {
		t.Error("no robot with a charger among them")
	}
}

func TestArgumentsAreLeftAsTheyAre(t *testing.T) {
	g, s := parse(t, baseText), base()
	cells := []int{7, 0, 4}
	made, _ := state.New(g, cells)
	for i := range s.Robots {
		state.Goal(g, s, i)
	}
	state.Right(g, s)
	state.Same(s, base())
	state.Find(s, 6)
	state.Copy(s)
	if !reflect.DeepEqual(s, base()) || !slices.Equal(cells, []int{7, 0, 4}) {
		t.Error("arguments changed:", s, cells)
	}
	cells[0] = 1
	if made.Robots[0].Cell != 7 {
		t.Error("a state changed with the cells of which it was made")
	}
	made.Robots[0].Cell = 3
	if again, _ := state.New(g, []int{7, 0, 4}); again.Robots[0].Cell != 7 {
		t.Error("New changed with an earlier result")
	}
}

func TestNoCallPanicsOnWrongArguments(t *testing.T) {
	numbers := append([]int{0, 1, 2, 3, 4, 5}, absent...)
	for _, cells := range []string{"", ".", "....", "..CC\n", "C\xff\xae.", "é.C"} {
		for _, w := range []int{math.MinInt, -1, 0, 1, 2, 4, math.MaxInt} {
			for _, h := range []int{math.MinInt, 0, 1, 2, math.MaxInt} {
				g := api.Grid{W: w, H: h, Cells: cells}
				for _, n := range numbers {
					state.New(g, []int{n, 0, n})
					s := base()
					for _, p := range numbersOf(&s) {
						*p = n
					}
					for mode := range 5 {
						s.Robots[mode] = api.Robot{Cell: n, Mode: mode, Task: n, Battery: 3}
					}
					state.Right(g, s)
					state.Goal(g, s, n)
					for i := range s.Robots {
						state.Goal(g, s, i)
						state.Goal(g, api.State{Robots: s.Robots}, i)
					}
				}
			}
		}
	}
}

func TestCallsAtTheSameTime(t *testing.T) {
	g, s := parse(t, baseText), base()
	var all sync.WaitGroup
	for range 8 {
		all.Go(func() {
			for range 200 {
				if to, is := state.Goal(g, s, 2); to != 10 || !is {
					t.Error("Goal differs")
				}
				if !state.Right(g, s) || !state.Same(s, state.Copy(s)) || state.Find(s, 6) != 4 {
					t.Error("Right, Same, Copy or Find differs")
				}
				if _, e := state.New(g, []int{0, 1, 0}); e != api.ErrTwice {
					t.Error("New differs")
				}
			}
		})
	}
	all.Wait()
}

func TestImports(t *testing.T) {
	f, err := parser.ParseFile(token.NewFileSet(), "state.go", nil, parser.ImportsOnly)
	if err != nil {
		t.Fatal(err)
	}
	for _, i := range f.Imports {
		if !slices.Contains([]string{`"slices"`, `"tugger/api"`, `"tugger/dist"`, `"tugger/grid"`}, i.Path.Value) {
			t.Error("state imports", i.Path.Value)
		}
	}
}

// full returns a state with as much of all as can be.
func full(g api.Grid) api.State {
	s, _ := state.New(g, firsts(api.MostRobots))
	for i := range api.MostTasks {
		s.Tasks = append(s.Tasks, api.Task{Id: i + 1, From: i, To: i + 1, State: api.Taken, Robot: i})
		s.Robots[i].Mode, s.Robots[i].Task = api.Fetching, i+1
	}
	s.Blocked = firsts(most * most)
	return s
}

func BenchmarkRightOfTheGreatestState(b *testing.B) {
	g := open()
	s := full(g)
	for b.Loop() {
		if !state.Right(g, s) {
			b.Fatal("not valid")
		}
	}
}

func BenchmarkGoalsOfTheGreatestState(b *testing.B) {
	g := open()
	s := full(g)
	for b.Loop() {
		for i := range s.Robots {
			state.Goal(g, s, i)
		}
	}
}
