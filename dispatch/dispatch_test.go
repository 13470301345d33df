package dispatch_test

import (
	"fmt"
	"go/parser"
	"go/token"
	"math"
	"math/rand"
	"slices"
	"strings"
	"sync"
	"testing"

	"tugger/api"
	"tugger/dispatch"
	"tugger/dist"
	"tugger/grid"
	"tugger/state"
)

const most = api.MostSide

// pair is written shortly in tables.
type pair = dispatch.Pair

// absent are numbers that are no cells of any grid, and no tasks of any state.
var absent = []int{math.MinInt, math.MinInt + 1, -most, -2, -1, most * most, most*most + 1, 1 << 32, math.MaxInt - 1, math.MaxInt}

// parse returns the grid of rows, which must be one.
func parse(t testing.TB, rows ...string) api.Grid {
	t.Helper()
	g, e := grid.Parse(strings.Join(rows, "\n") + "\n")
	if e != api.OK {
		t.Fatalf("Parse(%q): %d", rows, e)
	}
	return g
}

// valid returns a state, which must be valid.
func valid(t testing.TB, g api.Grid, s api.State) api.State {
	t.Helper()
	if !state.Right(g, s) {
		t.Fatalf("the test's state is not valid: %s", brief(s))
	}
	return s
}

// brief says what a value is in a few words.
func brief(v any) string {
	s := fmt.Sprint(v)
	if len(s) > 300 {
		return s[:300] + ".."
	}
	return s
}

// idle returns idle robots in some cells, with a full battery.
func idle(cells ...int) []api.Robot {
	var l []api.Robot
	for _, cell := range cells {
		l = append(l, api.Robot{Cell: cell, Battery: api.MostBattery})
	}
	return l
}

// waiting returns tasks that wait in some cells, with the Ids 11, 12 and so on.
func waiting(to int, from ...int) []api.Task {
	var l []api.Task
	for i, cell := range from {
		l = append(l, api.Task{Id: 11 + i, From: cell, To: to, State: api.Waiting, Robot: -1})
	}
	return l
}

// expectBest reports a Best that is not the robot that is wanted, or that changes its arguments.
func expectBest(t *testing.T, name string, g api.Grid, s api.State, task, want int) {
	t.Helper()
	was := state.Copy(s)
	if k := dispatch.Best(g, s, task); k != want {
		t.Errorf("%s: Best(%s, %s, %d) = %d, want %d", name, brief(g), brief(s), task, k, want)
	}
	if !state.Same(s, was) {
		t.Errorf("%s: Best changed its arguments to %s", name, brief(s))
	}
}

// expect reports what Dispatch returns other than a state and pairs.
func expect(t *testing.T, name string, g api.Grid, s, want api.State, pairs ...pair) {
	t.Helper()
	was := state.Copy(s)
	u, l := dispatch.Dispatch(g, s)
	if !state.Same(u, want) {
		t.Errorf("%s: Dispatch(%s, %s) is\n%s, want\n%s", name, brief(g), brief(s), brief(u), brief(want))
	}
	if !slices.Equal(l, pairs) {
		t.Errorf("%s: Dispatch(%s, %s) has the pairs %s, want %s", name, brief(g), brief(s), brief(l), brief(pairs))
	}
	if !state.Same(s, was) {
		t.Errorf("%s: Dispatch changed its arguments to %s", name, brief(s))
	}
	expectTheorem(t, g, s, u, l)
}

// expectTheorem reports what of P10.3 does not hold for a result of Dispatch.
func expectTheorem(t *testing.T, g api.Grid, s, u api.State, l []pair) {
	t.Helper()
	if !state.Right(g, u) {
		t.Fatalf("Dispatch(%s, %s) is not valid: %s", brief(g), brief(s), brief(u))
	}
	if again, more := dispatch.Dispatch(g, u); !state.Same(again, u) || len(more) != 0 {
		t.Fatalf("Dispatch again makes %s and %s of %s", brief(again), brief(more), brief(u))
	}
	robots, tasks := map[int]int{}, map[int]int{}
	for _, p := range l {
		robots[p.Robot]++
		tasks[p.Task]++
		if robots[p.Robot] > 1 || tasks[p.Task] > 1 {
			t.Fatalf("Dispatch(%s, %s) has something twice in %s", brief(g), brief(s), brief(l))
		}
		if s.Robots[p.Robot].Mode != api.Idle || s.Tasks[p.Task].State != api.Waiting {
			t.Fatalf("Dispatch(%s, %s) has the pair %v", brief(g), brief(s), p)
		}
		if u.Tasks[p.Task].Robot != p.Robot || u.Robots[p.Robot].Task != u.Tasks[p.Task].Id {
			t.Fatalf("Dispatch(%s, %s) does not assign the pair %v in %s", brief(g), brief(s), p, brief(u))
		}
	}
	for i, r := range u.Robots {
		if robots[i] == 0 && (r.Task != s.Robots[i].Task || r.Mode == api.Fetching && s.Robots[i].Mode != api.Fetching) {
			t.Fatalf("Dispatch(%s, %s) assigns what is in no pair to robot %d: %s", brief(g), brief(s), i, brief(u))
		}
	}
}

// judgeBest is the test's own Best, as the chapter words it.
func judgeBest(g api.Grid, s api.State, task int) int {
	if task < 0 || task >= len(s.Tasks) || s.Tasks[task].State != api.Waiting {
		return -1
	}
	of := map[int][]int{}
	least := math.MaxInt
	for i, r := range s.Robots {
		if r.Mode != api.Idle || r.Battery < api.Low {
			continue
		}
		if far := dist.Far(g, r.Cell, s.Tasks[task].From, s.Blocked); far != -1 {
			of[far] = append(of[far], i)
			least = min(least, far)
		}
	}
	if len(of) == 0 {
		return -1
	}
	return slices.Min(of[least])
}

// judge is the test's own Dispatch, as the chapter words it.
func judge(g api.Grid, s api.State) (api.State, []pair) {
	u := state.Copy(s)
	var l []pair
	for task := range u.Tasks {
		if k := judgeBest(g, u, task); k != -1 {
			l = append(l, pair{Task: task, Robot: k})
			u.Tasks[task] = api.Task{Id: s.Tasks[task].Id, From: s.Tasks[task].From, To: s.Tasks[task].To, State: api.Taken, Robot: k}
			u.Robots[k] = api.Robot{Cell: s.Robots[k].Cell, Mode: api.Fetching, Task: s.Tasks[task].Id, Battery: s.Robots[k].Battery, Hold: s.Robots[k].Hold}
		}
	}
	for i, r := range u.Robots {
		if r.Mode == api.Idle && r.Battery < api.Low {
			u.Robots[i].Mode = api.Charging
		}
	}
	return u, l
}

// expectJudged reports answers that differ from the judge's. It returns the pairs.
func expectJudged(t *testing.T, name string, g api.Grid, s api.State) []pair {
	t.Helper()
	for task := -2; task < len(s.Tasks)+2; task++ {
		expectBest(t, name, g, s, task, judgeBest(g, s, task))
	}
	u, l := judge(g, s)
	expect(t, name, g, s, u, l...)
	return l
}

func TestNumbers(t *testing.T) {
	if api.Low != 100 || api.Idle != 0 || api.Fetching != 1 || api.Charging != 3 || api.Waiting != 1 || api.Taken != 2 {
		t.Fatal("the numbers in these tests are others")
	}
}

// TestExample has the chapter's example.
func TestExample(t *testing.T) {
	g := parse(t, "......")
	s := valid(t, g, api.State{Robots: idle(0, 5), Tasks: waiting(0, 3)})
	expectBest(t, "the example", g, s, 0, 1)
	u := state.Copy(s)
	u.Tasks[0].State, u.Tasks[0].Robot = 2, 1
	u.Robots[1].Mode, u.Robots[1].Task = 1, 11
	expect(t, "the example", g, s, u, pair{0, 1})
}

// TestNearest has robots of which the nearest one that reaches the task is Best.
func TestNearest(t *testing.T) {
	row := parse(t, ".........")
	for _, x := range []struct {
		name    string
		g       api.Grid
		robots  []int
		from    int
		blocked []int
		want    int
	}{
		{"the only one", row, []int{4}, 8, nil, 0},
		{"the first one is nearer", row, []int{4, 8}, 5, nil, 0},
		{"the second one is nearer", row, []int{8, 4}, 5, nil, 1},
		{"the second one of three is nearest", row, []int{0, 6, 8}, 4, nil, 1},
		{"the last one of three is nearest", row, []int{0, 8, 5}, 4, nil, 2},
		{"two equally far", row, []int{2, 6}, 4, nil, 0},
		{"two equally far, in the other order", row, []int{6, 2}, 4, nil, 0},
		{"two equally far behind a farther one", row, []int{8, 6, 2}, 4, nil, 1},
		{"two equally far behind a nearer one", row, []int{3, 6, 2}, 4, nil, 0},
		{"two equally far around a nearer one", row, []int{6, 3, 2}, 4, nil, 1},
		{"three equally far", parse(t, "...", "...", "..."), []int{5, 7, 1}, 4, nil, 0},
		{"three equally far behind a farther one", parse(t, "...", "...", "..."), []int{0, 5, 7, 1}, 4, nil, 1},
		{"three equally far by different ways", parse(t, "..#.", "....", "...."), []int{10, 5, 0}, 6, nil, 0},
		{"in the task's From", row, []int{3, 4}, 4, nil, 1},
		{"in the task's From, first", row, []int{4, 3}, 4, nil, 0},
		{"a wall on the way of the nearer one", parse(t, "...#....."), []int{2, 8}, 4, nil, 1},
		{"a wall on the way of both", parse(t, "..#...#.."), []int{1, 7}, 4, nil, -1},
		{"a wall of shelves", parse(t, "...", "###", "..."), []int{0, 1, 2}, 7, nil, -1},
		{"a detour around a wall", parse(t, ".#...", ".....", "....."), []int{0, 4}, 2, nil, 1},
		{"a detour that is as long as the other's way", parse(t, ".#....", "......"), []int{0, 5}, 2, nil, 1},
		{"a detour and the other's way, equally far", parse(t, ".#.....", "......."), []int{0, 6}, 2, nil, 0},
		{"a blocked cell on the way of the nearer one", row, []int{2, 8}, 4, []int{3}, 1},
		{"a blocked cell on the way of the farther one", row, []int{3, 8}, 4, []int{6}, 0},
		{"blocked cells on all ways", row, []int{2, 8}, 4, []int{3, 5}, -1},
		{"a detour around a blocked cell", parse(t, ".....", "....."), []int{0, 4}, 2, []int{1}, 1},
		{"blocked cells elsewhere", row, []int{2, 6}, 5, []int{0, 1, 7, 8}, 1},
		{"the task's From is blocked", row, []int{3, 6}, 4, []int{4}, -1},
		{"the task's From is blocked, and a robot is in it", row, []int{3, 4}, 4, []int{4}, 1},
		{"the robot's own cell is blocked", row, []int{2, 8}, 4, []int{2}, 0},
		{"the robots' own cells are blocked", row, []int{8, 2}, 4, []int{2, 8}, 1},
		{"a robot in a blocked cell on the way", row, []int{1, 3}, 4, []int{3}, 1},
		{"a robot in a blocked cell behind the only one on the way", row, []int{1, 0}, 4, []int{1}, 0},
		{"all cells are blocked", row, []int{3, 5}, 4, []int{0, 1, 2, 3, 4, 5, 6, 7, 8}, -1},
		{"all cells are blocked, and a robot is in the task's From", row, []int{3, 4}, 4, []int{0, 1, 2, 3, 4, 5, 6, 7, 8}, 1},
		{"robots are in no one's way", row, []int{0, 1, 2, 3}, 8, nil, 3},
		{"along one-way cells", parse(t, ">>>>"), []int{0, 3}, 2, nil, 0},
		{"against one-way cells", parse(t, ">>>>"), []int{3, 2}, 1, nil, -1},
		{"the way to the task, not from it", parse(t, ">v", "^<"), []int{1, 2}, 0, nil, 1},
		{"the way to the task, not from it, around", parse(t, ">>v", "^.v", "^<<"), []int{1, 7, 8}, 0, nil, 1},
		{"into a one-way cell from its side", parse(t, "...", ".>.", "..."), []int{5, 1}, 4, nil, 0},
		{"stations and chargers", parse(t, "S.C.S"), []int{0, 4}, 3, nil, 1},
		{"the last cell of a row and the first one of the next", parse(t, "...", "..."), []int{2, 5}, 3, nil, 1},
		{"the last cell of a row and the first one of the next, back", parse(t, "...", "..."), []int{3, 1}, 2, nil, 1},
		{"a grid of two cells", parse(t, ".."), []int{1}, 0, nil, 0},
		{"a column", parse(t, ".", ".", ".", "."), []int{3, 0}, 1, nil, 1},
	} {
		to := 0
		for to == x.from || !grid.Floor(x.g, to) {
			to++
		}
		s := valid(t, x.g, api.State{Robots: idle(x.robots...), Tasks: waiting(to, x.from), Blocked: x.blocked})
		expectBest(t, x.name, x.g, s, 0, x.want)
		u := state.Copy(s)
		var l []pair
		if x.want != -1 {
			u.Tasks[0].State, u.Tasks[0].Robot = api.Taken, x.want
			u.Robots[x.want].Mode, u.Robots[x.want].Task = api.Fetching, 11
			l = append(l, pair{0, x.want})
		}
		expect(t, x.name, x.g, s, u, l...)
	}
}

// TestTasksThatAreNone has numbers of tasks that do not exist.
func TestTasksThatAreNone(t *testing.T) {
	g := parse(t, "....")
	for n := range 4 {
		s := valid(t, g, api.State{Robots: idle(0, 1, 2), Tasks: waiting(0, 1, 2, 3)[:n]})
		for task := range n {
			expectBest(t, "a task", g, s, task, min(task+1, 2))
		}
		for _, task := range append([]int{n, n + 1, n + 2, 100, api.MostTasks}, absent...) {
			expectBest(t, "no task", g, s, task, -1)
		}
	}
	// There are elements behind the tasks, which are none.
	s := api.State{Robots: idle(0), Tasks: waiting(0, 1, 2)[:1]}
	expectBest(t, "behind the tasks", g, s, 1, -1)
	expect(t, "behind the tasks", g, s, api.State{
		Robots: []api.Robot{{Cell: 0, Mode: api.Fetching, Task: 11, Battery: 1000}},
		Tasks:  []api.Task{{Id: 11, From: 1, State: api.Taken}},
	}, pair{0, 0})
}

// TestTasksThatAreNotWaiting has tasks of each State, with robots that could be given one.
func TestTasksThatAreNotWaiting(t *testing.T) {
	g := parse(t, "........")
	s := valid(t, g, api.State{
		Robots: []api.Robot{
			{Cell: 0, Battery: 1000},
			{Cell: 1, Mode: api.Fetching, Task: 2, Battery: 1000},
			{Cell: 2, Mode: api.Carrying, Task: 3, Battery: 1000},
			{Cell: 3, Mode: api.Faulted, Task: 5, Battery: 1000},
			{Cell: 4, Battery: 1000},
		},
		Tasks: []api.Task{
			{Id: 4, From: 0, To: 7, State: api.Done, Robot: 0},
			{Id: 2, From: 0, To: 7, State: api.Taken, Robot: 1},
			{Id: 3, From: 0, To: 7, State: api.Carried, Robot: 2},
			{Id: 5, From: 0, To: 7, State: api.Carried, Robot: 3},
			{Id: 6, From: 4, To: 7, State: api.Done, Robot: 4},
		},
	})
	for task := range s.Tasks {
		expectBest(t, "not waiting", g, s, task, -1)
	}
	expect(t, "not waiting", g, s, s)
	// Those that are waiting between those that are not.
	s.Tasks = slices.Insert(s.Tasks, 0, waiting(7, 3)...)
	s.Tasks = slices.Insert(s.Tasks, 3, api.Task{Id: 20, From: 1, To: 7, State: api.Waiting, Robot: -1})
	s.Tasks = append(s.Tasks, api.Task{Id: 21, From: 0, To: 7, State: api.Waiting, Robot: -1})
	valid(t, g, s)
	for task, want := range []int{4, -1, -1, 0, -1, -1, -1, 0} {
		expectBest(t, "between others", g, s, task, want)
	}
	u := state.Copy(s)
	u.Robots[4] = api.Robot{Cell: 4, Mode: api.Fetching, Task: 11, Battery: 1000}
	u.Robots[0] = api.Robot{Cell: 0, Mode: api.Fetching, Task: 20, Battery: 1000}
	u.Tasks[0] = api.Task{Id: 11, From: 3, To: 7, State: api.Taken, Robot: 4}
	u.Tasks[3] = api.Task{Id: 20, From: 1, To: 7, State: api.Taken, Robot: 0}
	expect(t, "between others", g, s, u, pair{0, 4}, pair{3, 0})
}

func TestWithoutRobotsOrTasks(t *testing.T) {
	g := parse(t, "...")
	without := valid(t, g, api.State{Tick: 7, Tasks: waiting(0, 1, 2), Blocked: []int{1}})
	expectBest(t, "no robots", g, without, 0, -1)
	expectBest(t, "no robots", g, without, 1, -1)
	expect(t, "no robots", g, without, without)
	none := valid(t, g, api.State{Tick: 8, Robots: idle(0, 2), Blocked: []int{1}})
	expectBest(t, "no tasks", g, none, 0, -1)
	expectBest(t, "no tasks", g, none, -1, -1)
	expect(t, "no tasks", g, none, none)
	expectBest(t, "nothing", g, api.State{}, 0, -1)
	expect(t, "nothing", g, api.State{}, api.State{})
	expect(t, "nothing at a tick", g, api.State{Tick: math.MaxInt32}, api.State{Tick: math.MaxInt32})
}

// TestModes has a robot of each Mode in the task's From, and an idle one far away.
func TestModes(t *testing.T) {
	g := parse(t, "......")
	own := api.Task{Id: 1, From: 1, To: 2, Robot: 0}
	for _, x := range []struct {
		name   string
		mode   int
		own    int
		chosen int
	}{
		{"idle", api.Idle, 0, 0},
		{"fetching", api.Fetching, api.Taken, 1},
		{"carrying", api.Carrying, api.Carried, 1},
		{"charging", api.Charging, 0, 1},
		{"faulted", api.Faulted, 0, 1},
		{"faulted with a task", api.Faulted, api.Carried, 1},
		{"idle, with a task that it has done", api.Idle, api.Done, 0},
	} {
		for _, battery := range []int{0, 99, 100, 1000} {
			s := api.State{Robots: []api.Robot{{Cell: 3, Mode: x.mode, Battery: battery}, {Cell: 5, Battery: 100}}, Tasks: waiting(0, 3)}
			if x.own != 0 {
				own.State = x.own
				s.Tasks = append(s.Tasks, own)
			}
			if x.own == api.Taken || x.own == api.Carried {
				s.Robots[0].Task = own.Id
			}
			valid(t, g, s)
			want := x.chosen
			if battery < api.Low {
				want = 1
			}
			expectBest(t, x.name, g, s, 0, want)
			u := state.Copy(s)
			if x.mode == api.Idle && battery < api.Low {
				u.Robots[0].Mode = api.Charging
			}
			u.Robots[want].Mode, u.Robots[want].Task = api.Fetching, 11
			u.Tasks[0].State, u.Tasks[0].Robot = api.Taken, want
			expect(t, x.name, g, s, u, pair{0, want})
			// The other one has gone, and the robot alone is asked.
			s.Robots = s.Robots[:1]
			expectBest(t, x.name+", alone", g, s, 0, []int{want, -1}[want])
		}
	}
}

func TestBattery(t *testing.T) {
	g := parse(t, "......")
	for _, x := range []struct {
		near, far int
		want      int
	}{
		{1000, 1000, 0}, {101, 1000, 0}, {100, 1000, 0}, {99, 1000, 1}, {98, 1000, 1}, {1, 1000, 1}, {0, 1000, 1},
		{100, 0, 0}, {100, 100, 0}, {99, 100, 1}, {99, 101, 1}, {99, 99, -1}, {0, 99, -1}, {0, 0, -1}, {101, 99, 0},
	} {
		name := fmt.Sprintf("batteries %d and %d", x.near, x.far)
		s := valid(t, g, api.State{Robots: []api.Robot{{Cell: 2, Battery: x.near}, {Cell: 5, Battery: x.far}}, Tasks: waiting(0, 3)})
		expectBest(t, name, g, s, 0, x.want)
		u := state.Copy(s)
		var l []pair
		for i, r := range s.Robots {
			if r.Battery < 100 {
				u.Robots[i].Mode = api.Charging
			}
		}
		if x.want != -1 {
			u.Robots[x.want].Mode, u.Robots[x.want].Task = api.Fetching, 11
			u.Tasks[0].State, u.Tasks[0].Robot = api.Taken, x.want
			l = append(l, pair{0, x.want})
		}
		expect(t, name, g, s, u, l...)
	}
	// Nearer, and in the task's From, with too small a Battery; then equally far.
	s := valid(t, g, api.State{Robots: []api.Robot{{Cell: 3, Battery: 99}, {Cell: 4, Battery: 99}, {Cell: 1, Battery: 100}, {Cell: 5, Battery: 500}}, Tasks: waiting(0, 3)})
	expectBest(t, "two with too small a Battery", g, s, 0, 2)
}

// TestHeldRobots has robots that are held, which can be given a task like others.
func TestHeldRobots(t *testing.T) {
	g := parse(t, "......")
	s := valid(t, g, api.State{Robots: []api.Robot{{Cell: 0, Battery: 100}, {Cell: 4, Battery: 100, Hold: 1000}, {Cell: 5, Battery: 7, Hold: 3}}, Tasks: waiting(0, 3)})
	expectBest(t, "held", g, s, 0, 1)
	u := state.Copy(s)
	u.Robots[1] = api.Robot{Cell: 4, Mode: api.Fetching, Task: 11, Battery: 100, Hold: 1000}
	u.Robots[2] = api.Robot{Cell: 5, Mode: api.Charging, Battery: 7, Hold: 3}
	u.Tasks[0] = api.Task{Id: 11, From: 3, To: 0, State: api.Taken, Robot: 1}
	expect(t, "held", g, s, u, pair{0, 1})
}

// TestCharging has robots of all modes and of some batteries, of which only idle ones become charging.
func TestCharging(t *testing.T) {
	g := parse(t, "......")
	for mode := api.Idle; mode <= api.Faulted; mode++ {
		for _, battery := range []int{0, 1, 98, 99, 100, 101, 1000} {
			s := api.State{Robots: []api.Robot{{Cell: 0, Mode: mode, Battery: battery}}}
			if mode == api.Fetching || mode == api.Carrying {
				s.Robots[0].Task = 5
				s.Tasks = []api.Task{{Id: 5, From: 1, To: 2, State: mode + 1}}
			}
			want := state.Copy(valid(t, g, s))
			if mode == api.Idle && battery < 100 {
				want.Robots[0].Mode = api.Charging
			}
			expect(t, fmt.Sprintf("mode %d, battery %d", mode, battery), g, s, want)
		}
	}
	// There need not be a charger, and all are sent.
	s := api.State{Robots: []api.Robot{{Cell: 0, Battery: 99}, {Cell: 1, Battery: 100}, {Cell: 2}, {Cell: 3, Battery: 50, Hold: 9}}}
	expect(t, "several", g, valid(t, g, s), api.State{Robots: []api.Robot{{Cell: 0, Mode: 3, Battery: 99}, {Cell: 1, Battery: 100}, {Cell: 2, Mode: 3}, {Cell: 3, Mode: 3, Battery: 50, Hold: 9}}})
	// One that is charging remains so, however full it is; and is given no task.
	s = api.State{Robots: []api.Robot{{Cell: 0, Mode: api.Charging, Battery: 1000}}, Tasks: waiting(1, 0)}
	expect(t, "full", g, valid(t, g, s), s)
}

// TestSeveralTasks has tasks of which an earlier one gets the robot that a later one would have had.
func TestSeveralTasks(t *testing.T) {
	row := parse(t, "..........")
	for _, x := range []struct {
		name    string
		robots  []int
		from    []int
		blocked []int
		pairs   []pair
	}{
		{"each its own", []int{1, 8}, []int{0, 9}, nil, []pair{{0, 0}, {1, 1}}},
		{"each its own, crosswise", []int{1, 8}, []int{9, 0}, nil, []pair{{0, 1}, {1, 0}}},
		{"the later one would have had the same", []int{3, 9}, []int{5, 4}, nil, []pair{{0, 0}, {1, 1}}},
		{"the later one is even in its cell", []int{3, 9}, []int{4, 3}, nil, []pair{{0, 0}, {1, 1}}},
		{"a chain", []int{3, 5, 8}, []int{4, 4, 4}, nil, []pair{{0, 0}, {1, 1}, {2, 2}}},
		{"a chain, backwards", []int{8, 5, 3}, []int{4, 4, 4}, nil, []pair{{0, 1}, {1, 2}, {2, 0}}},
		{"more tasks than robots", []int{3, 8}, []int{0, 9, 1, 5}, nil, []pair{{0, 0}, {1, 1}}},
		{"more tasks than robots, the last of which is nearest", []int{3}, []int{9, 0, 3}, nil, []pair{{0, 0}}},
		{"more robots than tasks", []int{0, 2, 4, 6}, []int{5, 9}, nil, []pair{{0, 2}, {1, 3}}},
		{"the first task can be reached by none", []int{0, 1, 2}, []int{5, 2, 0}, []int{3}, []pair{{1, 2}, {2, 0}}},
		{"a middle one can be reached by none", []int{0, 1, 2}, []int{2, 5, 0}, []int{3}, []pair{{0, 2}, {2, 0}}},
		{"only the last one can be reached", []int{1}, []int{5, 6, 0}, []int{3}, []pair{{2, 0}}},
		{"none can be reached", []int{0, 1, 2}, []int{5, 6, 7}, []int{3}, nil},
		{"one can be reached by the one alone that another one has", []int{1, 7}, []int{0, 2}, []int{4}, []pair{{0, 0}}},
		{"one From is another one's robot's cell", []int{2, 5}, []int{5, 2}, nil, []pair{{0, 1}, {1, 0}}},
		{"none in the middle", []int{4, 5}, []int{4, 9, 5}, []int{7}, []pair{{0, 0}, {2, 1}}},
	} {
		// The last task's To is another cell than all From.
		to := 0
		for slices.Contains(x.from, to) {
			to++
		}
		s := valid(t, row, api.State{Robots: idle(x.robots...), Tasks: waiting(to, x.from...), Blocked: x.blocked})
		u := state.Copy(s)
		for _, p := range x.pairs {
			u.Tasks[p.Task].State, u.Tasks[p.Task].Robot = api.Taken, p.Robot
			u.Robots[p.Robot].Mode, u.Robots[p.Robot].Task = api.Fetching, 11+p.Task
		}
		expect(t, x.name, row, s, u, x.pairs...)
		expectJudged(t, x.name, row, s)
	}
}

// TestChargingComesLast has robots with too small a Battery, others that are given a task, and others that were not
// idle.
func TestChargingComesLast(t *testing.T) {
	g := parse(t, "..........")
	s := valid(t, g, api.State{
		Tick: 5,
		Robots: []api.Robot{
			{Cell: 0, Battery: 99},
			{Cell: 1, Mode: api.Charging, Battery: 50},
			{Cell: 2, Battery: 100},
			{Cell: 3, Mode: api.Faulted, Battery: 20},
			{Cell: 4, Mode: api.Fetching, Task: 7, Battery: 30},
			{Cell: 5, Battery: 0, Hold: 2},
			{Cell: 6, Mode: api.Carrying, Task: 9, Battery: 40},
			{Cell: 7, Battery: 100},
			{Cell: 8, Battery: 300},
		},
		Tasks: []api.Task{
			{Id: 9, From: 1, To: 2, State: api.Carried, Robot: 6},
			{Id: 2, From: 0, To: 2, State: api.Waiting, Robot: -1},
			{Id: 7, From: 1, To: 2, State: api.Taken, Robot: 4},
			{Id: 1, From: 9, To: 2, State: api.Waiting, Robot: -1},
			{Id: 8, From: 9, To: 2, State: api.Done, Robot: 0},
		},
		Blocked: []int{3},
	})
	u := state.Copy(s)
	u.Robots[0].Mode = api.Charging
	u.Robots[5].Mode = api.Charging
	u.Robots[2] = api.Robot{Cell: 2, Mode: api.Fetching, Task: 2, Battery: 100}
	u.Robots[8] = api.Robot{Cell: 8, Mode: api.Fetching, Task: 1, Battery: 300}
	u.Tasks[1] = api.Task{Id: 2, From: 0, To: 2, State: api.Taken, Robot: 2}
	u.Tasks[3] = api.Task{Id: 1, From: 9, To: 2, State: api.Taken, Robot: 8}
	expect(t, "all kinds", g, s, u, pair{1, 2}, pair{3, 8})
}

// TestBestIsOfTheStateAlone has a Best that does not care what other tasks wait.
func TestBestIsOfTheStateAlone(t *testing.T) {
	g := parse(t, ".....")
	s := valid(t, g, api.State{Robots: idle(1, 4), Tasks: waiting(0, 1, 2, 1)})
	for task, want := range []int{0, 0, 0} {
		expectBest(t, "all have the same", g, s, task, want)
	}
	u, l := dispatch.Dispatch(g, s)
	if !slices.Equal(l, []pair{{0, 0}, {1, 1}}) {
		t.Errorf("the pairs are %v", l)
	}
	for task := range u.Tasks {
		expectBest(t, "all are given", g, u, task, -1)
	}
}

// TestIdsAreNotPlaces has Ids and places of tasks that are mixed up.
func TestIdsAreNotPlaces(t *testing.T) {
	g := parse(t, "....")
	s := valid(t, g, api.State{Robots: idle(0, 3), Tasks: []api.Task{
		{Id: math.MaxInt32, From: 3, To: 1, State: api.Waiting, Robot: -1},
		{Id: 1, From: 0, To: 2, State: api.Waiting, Robot: -1},
	}})
	u := api.State{
		Robots: []api.Robot{{Cell: 0, Mode: 1, Task: 1, Battery: 1000}, {Cell: 3, Mode: 1, Task: math.MaxInt32, Battery: 1000}},
		Tasks:  []api.Task{{Id: math.MaxInt32, From: 3, To: 1, State: 2, Robot: 1}, {Id: 1, From: 0, To: 2, State: 2, Robot: 0}},
	}
	expect(t, "mixed up", g, s, u, pair{0, 1}, pair{1, 0})
}

// subsets returns all subsets of the numbers below n, in increasing order each.
func subsets(n int) [][]int {
	var all [][]int
	for bits := range 1 << n {
		var l []int
		for i := range n {
			if bits>>i&1 == 1 {
				l = append(l, i)
			}
		}
		all = append(all, l)
	}
	return all
}

// TestAllSmallStates has all states of two robots and two tasks in small grids: their cells, their batteries near Low,
// and what is blocked.
func TestAllSmallStates(t *testing.T) {
	kinds := []api.Robot{{Battery: 100}, {Battery: 99}, {Mode: api.Charging, Battery: 500}}
	pairs := 0
	for _, g := range []api.Grid{parse(t, "...."), parse(t, ".>."), parse(t, "..", ".#"), parse(t, "..#."), parse(t, ">v", "^<")} {
		var cells []int
		for cell := range len(g.Cells) {
			if grid.Floor(g, cell) {
				cells = append(cells, cell)
			}
		}
		each := func(do func(a, b int)) {
			for _, a := range cells {
				for _, b := range cells {
					do(a, b)
				}
			}
		}
		each(func(a, b int) {
			if a == b {
				return
			}
			each(func(from, second int) {
				for _, closed := range subsets(len(cells)) {
					for i := range closed {
						closed[i] = cells[closed[i]]
					}
					for kind := range len(kinds) * len(kinds) {
						s := api.State{Robots: []api.Robot{kinds[kind%len(kinds)], kinds[kind/len(kinds)]}, Blocked: closed}
						s.Robots[0].Cell, s.Robots[1].Cell = a, b
						s.Tasks = append(waiting(another(cells, from), from), api.Task{Id: 3, From: second, To: another(cells, second), State: api.Waiting, Robot: -1})
						pairs += len(expectJudged(t, "small", g, valid(t, g, s)))
						if t.Failed() {
							t.FailNow()
						}
					}
				}
			})
		})
	}
	if pairs < 10000 {
		t.Errorf("there are only %d pairs", pairs)
	}
}

// another returns a cell other than a given one.
func another(cells []int, cell int) int {
	if cells[0] == cell {
		return cells[1]
	}
	return cells[0]
}

// chosenGrid returns a valid grid with some cells that are not walls, as r chooses.
func chosenGrid(r *rand.Rand) (api.Grid, []int) {
	for {
		g := api.Grid{W: 1 + r.Intn(7), H: 1 + r.Intn(7)}
		letters := []string{"..SC#", ".......#", "..<>^v", ".##"}[r.Intn(4)]
		for range g.W * g.H {
			g.Cells += letters[r.Intn(len(letters)):][:1]
		}
		var cells []int
		for _, cell := range r.Perm(len(g.Cells)) {
			if grid.Floor(g, cell) {
				cells = append(cells, cell)
			}
		}
		if grid.Right(g) && len(cells) > 1 {
			return g, cells
		}
	}
}

// chosenTask returns a task between two of some cells.
func chosenTask(r *rand.Rand, cells []int, id, what, robot int) api.Task {
	from := cells[r.Intn(len(cells))]
	for {
		if to := cells[r.Intn(len(cells))]; to != from {
			return api.Task{Id: id, From: from, To: to, State: what, Robot: robot}
		}
	}
}

// chosen returns a grid and a valid state of robots and tasks of all kinds, as r chooses.
func chosen(t testing.TB, r *rand.Rand) (api.Grid, api.State) {
	t.Helper()
	g, cells := chosenGrid(r)
	s := api.State{Tick: r.Intn(100)}
	for i, cell := range cells[:r.Intn(min(len(cells), 12)+1)] {
		x := api.Robot{Cell: cell, Battery: []int{0, 99, 100, 101, 1000}[r.Intn(5)], Hold: r.Intn(3) * r.Intn(2)}
		if kind := r.Intn(9); kind < 4 {
			x.Mode = 1 + kind
		}
		if x.Mode == api.Fetching || x.Mode == api.Carrying || x.Mode == api.Faulted && r.Intn(2) == 0 {
			x.Task = 100 + i
			s.Tasks = append(s.Tasks, chosenTask(r, cells, x.Task, min(x.Mode+1, api.Carried), i))
		}
		s.Robots = append(s.Robots, x)
	}
	for i := range r.Intn(8) {
		s.Tasks = append(s.Tasks, chosenTask(r, cells, 50-i, api.Waiting, -1))
	}
	for i := range min(len(s.Robots), r.Intn(3)) {
		s.Tasks = append(s.Tasks, chosenTask(r, cells, 1000+i, api.Done, r.Intn(len(s.Robots))))
	}
	r.Shuffle(len(s.Tasks), func(i, j int) { s.Tasks[i], s.Tasks[j] = s.Tasks[j], s.Tasks[i] })
	for _, cell := range cells {
		if r.Intn(8) == 0 {
			s.Blocked = append(s.Blocked, cell)
		}
	}
	slices.Sort(s.Blocked)
	return g, valid(t, g, s)
}

// TestChosenStates holds answers against the judge's.
func TestChosenStates(t *testing.T) {
	r := rand.New(rand.NewSource(1))
	counts := map[int]int{}
	for range 4000 {
		g, s := chosen(t, r)
		counts[len(expectJudged(t, "chosen", g, s))]++
		if t.Failed() {
			t.FailNow()
		}
	}
	for n := range 4 {
		if counts[n] < 100 {
			t.Errorf("only %d states have %d pairs", counts[n], n)
		}
	}
}

// TestOneAfterTheOther assigns the tasks that come in turn, as robots become idle again.
func TestOneAfterTheOther(t *testing.T) {
	r := rand.New(rand.NewSource(2))
	given := 0
	for range 60 {
		g, s := chosen(t, r)
		if len(s.Robots) == 0 {
			continue
		}
		for range 30 {
			u, l := dispatch.Dispatch(g, s)
			expectTheorem(t, g, s, u, l)
			given += len(l)
			s = u
			for i := range s.Robots {
				// A robot is done with its task, or charged.
				if place := state.Find(s, s.Robots[i].Task); place >= 0 && r.Intn(2) == 0 {
					s.Tasks[place].State = api.Done
					s.Robots[i] = api.Robot{Cell: s.Robots[i].Cell, Battery: r.Intn(300)}
				} else if s.Robots[i].Mode == api.Charging && r.Intn(2) == 0 {
					s.Robots[i].Mode, s.Robots[i].Battery = api.Idle, 90+r.Intn(20)
				}
			}
			if r.Intn(3) == 0 {
				from := s.Robots[0].Cell
				if to := s.Robots[len(s.Robots)-1].Cell; from != to {
					s.Tasks = append(s.Tasks, api.Task{Id: 5000 + len(s.Tasks), From: from, To: to, State: api.Waiting, Robot: -1})
				}
			}
			valid(t, g, s)
		}
	}
	if given < 300 {
		t.Errorf("only %d tasks were assigned", given)
	}
}

func TestResultsShareNothing(t *testing.T) {
	g := parse(t, "......")
	robots, tasks, blocked := idle(0, 4, 5), waiting(1, 3, 2, 2), []int{5, 77}
	robots[2] = api.Robot{Cell: -7, Battery: 1}
	s := valid(t, g, api.State{Robots: robots[:2], Tasks: tasks[:2], Blocked: blocked[:1]})
	first, l := dispatch.Dispatch(g, s)
	second, m := dispatch.Dispatch(g, s)
	kept, pairs := state.Copy(second), slices.Clone(m)
	clear(first.Robots[:cap(first.Robots)])
	clear(first.Tasks[:cap(first.Tasks)])
	clear(first.Blocked[:cap(first.Blocked)])
	clear(l[:cap(l)])
	if robots[0] != (api.Robot{Cell: 0, Battery: 1000}) || robots[1] != (api.Robot{Cell: 4, Battery: 1000}) || robots[2] != (api.Robot{Cell: -7, Battery: 1}) {
		t.Error("the robots, or what lies behind them, have changed")
	}
	if !slices.Equal(tasks, waiting(1, 3, 2, 2)) || !slices.Equal(blocked, []int{5, 77}) {
		t.Error("the tasks, the blocked cells, or what lies behind them, have changed")
	}
	clear(robots)
	clear(tasks)
	clear(blocked)
	if !state.Same(second, kept) || !slices.Equal(m, pairs) {
		t.Error("a result shares memory with an argument or with another result")
	}
}

// TestNothingToDoIsACopyToo has a state in which nothing changes, of which the result is still the caller's own.
func TestNothingToDoIsACopyToo(t *testing.T) {
	g := parse(t, "...")
	s := valid(t, g, api.State{Tick: 3, Robots: idle(0), Tasks: []api.Task{{Id: 1, From: 0, To: 1, State: api.Done}}, Blocked: []int{2}})
	was := state.Copy(s)
	u, l := dispatch.Dispatch(g, s)
	if !state.Same(u, was) || len(l) != 0 {
		t.Errorf("%v, %v", u, l)
	}
	u.Robots[0].Cell, u.Tasks[0].Id, u.Blocked[0] = 9, 9, 9
	if !state.Same(s, was) {
		t.Error("the result shares memory with the argument")
	}
}

func TestEmptySlicesAreLikeNil(t *testing.T) {
	g := parse(t, "...")
	empty := api.State{Robots: []api.Robot{}, Tasks: []api.Task{}, Blocked: []int{}}
	expectBest(t, "empty", g, empty, 0, -1)
	expect(t, "empty", g, empty, api.State{})
	s := api.State{Robots: idle(0), Tasks: waiting(0, 2), Blocked: []int{}}
	expectBest(t, "nothing blocked", g, s, 0, 0)
	s.Tasks = []api.Task{}
	expect(t, "no tasks", g, s, api.State{Robots: idle(0)})
	s = api.State{Robots: []api.Robot{}, Tasks: waiting(0, 2)}
	expect(t, "no robots", g, s, api.State{Tasks: waiting(0, 2)})
}

func TestAnswersDependOnArgumentsAlone(t *testing.T) {
	r := rand.New(rand.NewSource(3))
	for range 200 {
		g, s := chosen(t, r)
		u, l := dispatch.Dispatch(g, s)
		for range 5 {
			expect(t, "again", g, s, u, l...)
			g2, s2 := chosen(t, r)
			dispatch.Dispatch(g2, s2)
			dispatch.Best(g2, s2, 0)
		}
	}
}

func TestCallsAtTheSameTime(t *testing.T) {
	r := rand.New(rand.NewSource(4))
	g, s := chosen(t, r)
	for len(s.Robots) < 8 || len(judgePairs(g, s)) < 3 {
		g, s = chosen(t, r)
	}
	want, pairs := judge(g, s)
	first := pairs[0]
	var all sync.WaitGroup
	for range 8 {
		all.Go(func() {
			for range 100 {
				if u, l := dispatch.Dispatch(g, s); !state.Same(u, want) || !slices.Equal(l, pairs) {
					t.Error("Dispatch differs")
					return
				}
				if dispatch.Best(g, s, first.Task) != first.Robot {
					t.Error("Best differs")
					return
				}
			}
		})
	}
	all.Wait()
}

func judgePairs(g api.Grid, s api.State) []pair {
	_, l := judge(g, s)
	return l
}

// TestWrongInputs has grids and states that are not valid: nothing is promised about them but that the calls end.
func TestWrongInputs(t *testing.T) {
	cells := append([]int{0, 1, 2, 3, 8}, absent...)
	for _, g := range []api.Grid{
		{},
		{W: 3},
		{W: 0, H: 3, Cells: "..."},
		{W: -1, H: -3, Cells: "..."},
		{W: math.MinInt, H: 1, Cells: "..."},
		{W: math.MaxInt, H: math.MaxInt, Cells: "..."},
		{W: 2, H: 2, Cells: "..."},
		{W: 2, H: 1, Cells: "....."},
		{W: 3, H: 1, Cells: "x?\x00"},
		{W: 2, H: 1, Cells: "\xff\n"},
		{W: 3, H: 1, Cells: "..."},
	} {
		for _, from := range cells {
			for _, cell := range cells {
				for mode := -1; mode < 7; mode++ {
					robot := api.Robot{Cell: cell, Mode: mode, Task: -3, Battery: 100 + cell}
					task := api.Task{Id: mode, From: from, To: from, State: mode, Robot: cell}
					wait := api.Task{Id: mode, From: from, To: cell, State: api.Waiting, Robot: cell}
					s := api.State{Tick: -1, Robots: []api.Robot{robot, robot}, Tasks: []api.Task{task, wait, wait, wait}, Blocked: cells}
					for task := -1; task < 6; task++ {
						dispatch.Best(g, s, task)
					}
					if u, l := dispatch.Dispatch(g, s); len(u.Robots) != 2 || len(u.Tasks) != 4 || len(l) > 2 {
						t.Errorf("Dispatch(%v, %v) = %v, %v", g, s, u, l)
					}
				}
			}
		}
	}
}

// TestCellsThatAreNone has robots and tasks in cells that do not exist or are walls, of which none gets the other.
func TestCellsThatAreNone(t *testing.T) {
	g := parse(t, "..#")
	for _, cell := range append([]int{2, 3}, absent...) {
		s := api.State{Robots: idle(cell), Tasks: waiting(1, 0)}
		expectBest(t, "a robot outside", g, s, 0, -1)
		s = api.State{Robots: idle(0), Tasks: waiting(1, cell)}
		expectBest(t, "a task outside", g, s, 0, -1)
		s.Robots[0].Cell = cell
		expectBest(t, "both outside", g, s, 0, -1)
	}
}

// many returns the largest grid with as many idle robots and waiting tasks as there can be; the tasks begin in some
// number of cells.
func many(t testing.TB, r *rand.Rand, from int) (api.Grid, api.State) {
	t.Helper()
	g := api.Grid{W: most, H: most, Cells: strings.Repeat(".", most*most)}
	all := r.Perm(most * most)
	s := api.State{Robots: idle(all[:api.MostRobots]...)}
	for i := range api.MostTasks {
		s.Tasks = append(s.Tasks, waiting(all[len(all)-1], all[2000+i%from])...)
		s.Tasks[i].Id = 1 + i
	}
	return g, valid(t, g, s)
}

// TestManyRobots would take long if the way of each robot to each task were sought.
func TestManyRobots(t *testing.T) {
	g, s := many(t, rand.New(rand.NewSource(5)), api.MostTasks)
	u, l := dispatch.Dispatch(g, s)
	if len(l) != api.MostTasks {
		t.Fatalf("there are %d pairs", len(l))
	}
	// The grid has no walls, so that a distance is that of the columns and of the rows.
	free := slices.Clone(s.Robots)
	for task, p := range l {
		from := s.Tasks[task].From
		best, least := -1, math.MaxInt
		for i, robot := range free {
			if far := apart(robot.Cell%most, from%most) + apart(robot.Cell/most, from/most); robot.Mode == api.Idle && far < least {
				best, least = i, far
			}
		}
		if p != (pair{task, best}) {
			t.Fatalf("task %d has the pair %v, want robot %d", task, p, best)
		}
		free[best].Mode = api.Fetching
	}
	if !state.Right(g, u) {
		t.Error("the result is not valid")
	}
	if again, more := dispatch.Dispatch(g, u); !state.Same(again, u) || len(more) != 0 {
		t.Error("dispatching again changes something")
	}
}

func apart(a, b int) int { return max(a-b, b-a) }

// TestNobodyIsReady would take long if distances were sought where no robot can be given a task.
func TestNobodyIsReady(t *testing.T) {
	g, s := many(t, rand.New(rand.NewSource(6)), api.MostTasks)
	for i := range s.Robots {
		s.Robots[i].Mode = api.Charging
	}
	for range 20 {
		expectUnchanged(t, g, s)
	}
}

// TestManyTasksBeyondAWall would take long if distances to one cell were sought for each task that begins there.
func TestManyTasksBeyondAWall(t *testing.T) {
	g, s := many(t, rand.New(rand.NewSource(7)), 4)
	s.Robots = idle(0, 1)
	s.Blocked = []int{2, most, most + 1}
	for i := range s.Tasks {
		s.Tasks[i].From = most*most - 2 - i%4
	}
	valid(t, g, s)
	for range 20 {
		expectUnchanged(t, g, s)
	}
}

// expectUnchanged reports a Dispatch that changes anything.
func expectUnchanged(t *testing.T, g api.Grid, s api.State) {
	t.Helper()
	if u, l := dispatch.Dispatch(g, s); !state.Same(u, s) || len(l) != 0 {
		t.Fatalf("Dispatch changes something: %s", brief(l))
	}
}

func TestImports(t *testing.T) {
	f, err := parser.ParseFile(token.NewFileSet(), "dispatch.go", nil, parser.ImportsOnly)
	if err != nil {
		t.Fatal(err)
	}
	for _, i := range f.Imports {
		if !slices.Contains([]string{`"slices"`, `"tugger/api"`, `"tugger/dist"`, `"tugger/state"`}, i.Path.Value) {
			t.Error("dispatch imports", i.Path.Value)
		}
	}
}

func BenchmarkDispatchOfManyTasksInDifferentCells(b *testing.B) {
	g, s := many(b, rand.New(rand.NewSource(8)), api.MostTasks)
	for b.Loop() {
		dispatch.Dispatch(g, s)
	}
}

func BenchmarkDispatchOfManyTasksInFewCells(b *testing.B) {
	g, s := many(b, rand.New(rand.NewSource(8)), 10)
	for b.Loop() {
		dispatch.Dispatch(g, s)
	}
}
