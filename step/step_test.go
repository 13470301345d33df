package step_test

import (
	"fmt"
	"go/parser"
	"go/token"
	"math"
	"math/rand"
	"slices"
	"strings"
	"sync"
	"testing"

	"tugger/api"
	"tugger/dispatch"
	"tugger/gate"
	"tugger/grid"
	"tugger/input"
	"tugger/plan"
	"tugger/state"
	"tugger/step"
)

const (
	most = api.MostSide
	full = api.MostBattery
	// mostTick is the greatest Tick of which the chapter promises something.
	mostTick = 1<<31 - 100001
	// mostElements is the greatest number of elements of which it does.
	mostElements = 100000
)

// These are written shortly in tables.
type (
	robot  = api.Robot
	task   = api.Task
	inputs = []api.Input
	codes  = []api.Errno
)

// absent are numbers that are no cells of any grid, and no robots or tasks of any state.
var absent = []int{math.MinInt, math.MinInt + 1, -most, -2, -1, most * most, most*most + 1, 1 << 32, math.MaxInt - 1, math.MaxInt}

// parse returns the grid of rows, which must be one.
func parse(t testing.TB, rows ...string) api.Grid {
	t.Helper()
	g, e := grid.Parse(strings.Join(rows, "\n") + "\n")
	if e != api.OK {
		t.Fatalf("Parse(%q): %d", rows, e)
	}
	return g
}

// valid returns a state, which must be valid.
func valid(t testing.TB, g api.Grid, s api.State) api.State {
	t.Helper()
	if !state.Right(g, s) {
		t.Fatalf("the test's state is not valid: %s", brief(s))
	}
	return s
}

// brief says what a value is in a few words.
func brief(v any) string {
	s := fmt.Sprint(v)
	if len(s) > 400 {
		return s[:400] + ".."
	}
	return s
}

// with returns a state with a part that differs.
func with(s api.State, part func(s *api.State)) api.State {
	s = state.Copy(s)
	part(&s)
	return s
}

// bot returns a robot, whose parts are in the order of api.
func bot(cell, mode, task, battery, hold int) robot {
	return robot{Cell: cell, Mode: mode, Task: task, Battery: battery, Hold: hold}
}

// job returns a task, whose parts are in the order of api.
func job(id, from, to, what, robot int) task {
	return task{Id: id, From: from, To: to, State: what, Robot: robot}
}

// result is what Step returns.
type result struct {
	state api.State
	codes codes
	ways  []int
}

// expect reports what Step returns other than a result, or does other than the theorem says. The wanted Tick is filled
// in, because it is always the next one.
func expect(t *testing.T, name string, g api.Grid, s api.State, l inputs, want result) {
	t.Helper()
	valid(t, g, s)
	was, given := state.Copy(s), slices.Clone(l)
	u, e, ways := step.Step(g, s, l)
	want.state.Tick = was.Tick + 1
	if !state.Same(u, want.state) {
		t.Errorf("%s: Step(%s, %s, %s) is\n%s, want\n%s", name, brief(g), brief(was), brief(l), brief(u), brief(want.state))
	}
	if !slices.Equal(e, want.codes) {
		t.Errorf("%s: Step(%s, %s, %s) has the codes %s, want %s", name, brief(g), brief(was), brief(l), brief(e), brief(want.codes))
	}
	if !slices.Equal(ways, want.ways) {
		t.Errorf("%s: Step(%s, %s, %s) has the directions %s, want %s", name, brief(g), brief(was), brief(l), brief(ways), brief(want.ways))
	}
	if !state.Same(s, was) || !slices.Equal(l, given) {
		t.Errorf("%s: Step changed its arguments to %s and %s", name, brief(s), brief(l))
	}
	expectTheorem(t, g, was, u, ways)
}

// expectQuiet expects a result of Step without inputs.
func expectQuiet(t *testing.T, name string, g api.Grid, s, want api.State, ways ...int) {
	t.Helper()
	expect(t, name, g, s, nil, result{state: want, ways: ways})
}

// expectTheorem reports what of P11.3 does not hold for a state and that after a step.
func expectTheorem(t *testing.T, g api.Grid, s, u api.State, ways []int) {
	t.Helper()
	wrong := theorem(g, s, u, ways)
	if wrong != "" {
		t.Fatalf("%s: from %s\nto %s\nby %s in %s", wrong, brief(s), brief(u), brief(ways), brief(g))
	}
}

// theorem says what of P11.3 does not hold, or nothing.
func theorem(g api.Grid, s, u api.State, ways []int) string {
	if !state.Right(g, u) {
		return "the state is not valid"
	}
	if u.Tick != s.Tick+1 {
		return "the Tick is not the next one"
	}
	if len(u.Robots) != len(s.Robots) || len(ways) != len(s.Robots) || len(u.Tasks) < len(s.Tasks) {
		return "something is lost"
	}
	in, went := map[int]int{}, map[[2]int]bool{}
	for i, r := range u.Robots {
		from, to := s.Robots[i].Cell, r.Cell
		if in[to]++; in[to] > 1 {
			return "robots are in one cell"
		}
		if cell, is := grid.Goes(g, from, ways[i]); !is || cell != to || (ways[i] == api.Stay) != (from == to) {
			return "the direction does not lead there"
		}
		if from != to && slices.Contains(u.Blocked, to) {
			return "a robot entered a blocked cell"
		}
		if from != to && went[[2]int{to, from}] {
			return "two robots exchanged their cells"
		}
		went[[2]int{from, to}] = true
		if was := s.Robots[i].Battery; was != 0 && r.Battery < was-1 {
			return "a battery decreased by more than 1"
		}
	}
	for i, x := range s.Tasks {
		y := u.Tasks[i]
		if x.Id != y.Id || x.From != y.From || x.To != y.To || !follows(x.State, y.State) || x.State == api.Done && x != y {
			return "a task went back"
		}
	}
	for _, y := range u.Tasks[len(s.Tasks):] {
		if !follows(api.Waiting, y.State) {
			return "an order is too far"
		}
	}
	return ""
}

// follows says whether a task may have a State after a step from another State.
func follows(was, is int) bool {
	switch was {
	case api.Waiting, api.Taken:
		return is == api.Waiting || is == api.Taken || is == api.Carried
	case api.Carried:
		return is == api.Carried || is == api.Done
	}
	return was == is
}

// judge is the test's own Step, as the chapter words it.
func judge(g api.Grid, s api.State, l inputs) result {
	u, e := input.All(g, s, l)
	u, _ = dispatch.Dispatch(g, u)
	var cells, wants, ways []int
	for i, path := range plan.Plans(g, u) {
		cells = append(cells, u.Robots[i].Cell)
		wants = append(wants, path[1])
	}
	to, _ := gate.Gate(cells, wants, u.Blocked)
	for i := range u.Robots {
		leading := slices.DeleteFunc(grid.Ways(g, cells[i]), func(way int) bool {
			cell, _ := grid.Goes(g, cells[i], way)
			return cell != to[i]
		})
		ways = append(ways, slices.Min(leading))
		r := u.Robots[i]
		if r.Cell != to[i] {
			r.Cell = to[i]
			r.Battery--
		}
		r.Hold = max(r.Hold-1, 0)
		at := slices.IndexFunc(u.Tasks, func(x task) bool { return x.Id == r.Task })
		if r.Mode == api.Fetching && u.Tasks[at].From == r.Cell {
			r.Mode, u.Tasks[at].State = api.Carrying, api.Carried
		} else if r.Mode == api.Carrying && u.Tasks[at].To == r.Cell {
			r.Mode, r.Task, u.Tasks[at].State = api.Idle, 0, api.Done
		} else if r.Mode == api.Charging && g.Cells[r.Cell] == 'C' {
			r.Battery = min(r.Battery+20, 1000)
			if r.Battery == 1000 {
				r.Mode = api.Idle
			}
		}
		u.Robots[i] = r
	}
	u.Tick++
	return result{u, e, ways}
}

func TestNumbers(t *testing.T) {
	if api.Gain != 20 || api.MostBattery != 1000 || api.Low != 100 || api.Waiting != 1 || api.Done != 4 || api.Faulted != 4 || api.West != 4 {
		t.Fatal("the numbers in these tests are others")
	}
}

// TestExample has the chapter's example.
func TestExample(t *testing.T) {
	g := parse(t, "...")
	s, _ := state.New(g, []int{0})
	order := inputs{{Kind: api.Order, A: 5, B: 0, C: 2}}
	first := api.State{Robots: []robot{{Cell: 0, Mode: 2, Task: 5, Battery: 1000}}, Tasks: []task{job(5, 0, 2, 3, 0)}}
	second := api.State{Robots: []robot{{Cell: 1, Mode: 2, Task: 5, Battery: 999}}, Tasks: []task{job(5, 0, 2, 3, 0)}}
	third := api.State{Robots: []robot{{Cell: 2, Battery: 998}}, Tasks: []task{job(5, 0, 2, 4, 0)}}
	first.Tick, second.Tick, third.Tick = 1, 2, 3
	expect(t, "one tick", g, s, order, result{first, codes{api.OK}, []int{api.Stay}})
	expectQuiet(t, "two ticks", g, first, second, api.East)
	expectQuiet(t, "three ticks", g, second, third, api.East)
	expectQuiet(t, "four ticks", g, third, third, api.Stay)
	if u := step.Run(g, s, [][]api.Input{order, nil, nil}); !state.Same(u, third) {
		t.Errorf("Run: %v", u)
	}
}

// TestCodes has inputs of which some have errors, and do nothing.
func TestCodes(t *testing.T) {
	g := parse(t, "......", "#.....")
	s := api.State{Robots: []robot{{Cell: 0, Battery: 1000}, {Cell: 5, Battery: 1000}}}
	l := inputs{
		{Kind: api.Order, A: 1, B: 2, C: 3},
		{Kind: api.Order, A: 1, B: 4, C: 5},
		{Kind: api.Order, A: 0, B: 4, C: 5},
		{Kind: api.Order, A: 2, B: 4, C: 6},
		{Kind: api.Repair, A: 0},
		{},
		{Kind: 7},
		{Kind: api.Stall, A: 1, B: 5},
		{Kind: api.Stall, A: 1, B: 1001},
		{Kind: api.Block, A: 11},
		{Kind: api.Block, A: 11},
		{Kind: api.Clear, A: 10},
		{Kind: api.Fault, A: 2},
	}
	e := codes{0, api.ErrTwice, api.ErrArg, api.ErrName, api.ErrMode, api.ErrForm, api.ErrForm, 0, api.ErrArg, 0, api.ErrTwice, api.ErrMode, api.ErrName}
	u := api.State{
		Robots:  []robot{{Cell: 1, Mode: api.Fetching, Task: 1, Battery: 999}, {Cell: 5, Battery: 1000, Hold: 4}},
		Tasks:   []task{job(1, 2, 3, api.Taken, 0)},
		Blocked: []int{11},
	}
	expect(t, "several", g, s, l, result{u, e, []int{api.East, api.Stay}})
	for i, x := range l {
		if e[i] != api.OK && e[i] != api.ErrTwice {
			expect(t, "one with an error", g, s, inputs{x}, result{s, codes{e[i]}, []int{0, 0}})
		}
	}
	expect(t, "none", g, s, nil, result{s, nil, []int{0, 0}})
	expect(t, "none, as an empty slice", g, s, inputs{}, result{s, nil, []int{0, 0}})
	for _, n := range absent {
		expect(t, "numbers that are none", g, s, inputs{{Kind: n, A: n, B: n, C: n}, {Kind: api.Fault, A: n}, {Kind: api.Block, A: n}},
			result{s, codes{api.ErrForm, api.ErrName, api.ErrName}, []int{0, 0}})
	}
}

// TestInputsComeFirst has inputs that change what is dispatched, planned, and blocked in the same tick.
func TestInputsComeFirst(t *testing.T) {
	g := parse(t, "......")
	idle := []robot{{Cell: 0, Battery: 500}, {Cell: 5, Battery: 500}}
	order := api.Input{Kind: api.Order, A: 9, B: 2, C: 0}
	fetching := []robot{{Cell: 0, Mode: 1, Task: 9, Battery: 500}, {Cell: 5, Battery: 500}}
	carrying := []robot{{Cell: 0, Mode: 2, Task: 9, Battery: 500}}
	faulted := []robot{{Cell: 0, Mode: 4, Task: 9, Battery: 500}}
	for _, x := range []struct {
		name string
		s    api.State
		l    inputs
		want api.State
		ways []int
	}{
		{"an order is dispatched", api.State{Robots: idle}, inputs{order},
			api.State{Robots: []robot{bot(1, 1, 9, 499, 0), idle[1]}, Tasks: []task{job(9, 2, 0, 2, 0)}}, []int{2, 0}},
		{"a fault takes a robot away", api.State{Robots: idle}, inputs{order, {Kind: api.Fault}},
			api.State{Robots: []robot{bot(0, 4, 0, 500, 0), bot(4, 1, 9, 499, 0)}, Tasks: []task{job(9, 2, 0, 2, 1)}}, []int{0, 4}},
		{"a fault takes a task away", api.State{Robots: fetching, Tasks: []task{job(9, 2, 0, 2, 0)}}, inputs{{Kind: api.Fault}},
			api.State{Robots: []robot{bot(0, 4, 0, 500, 0), bot(4, 1, 9, 499, 0)}, Tasks: []task{job(9, 2, 0, 2, 1)}}, []int{0, 4}},
		{"a fault stops a robot", api.State{Robots: carrying, Tasks: []task{job(9, 2, 5, 3, 0)}}, inputs{{Kind: api.Fault}},
			api.State{Robots: faulted, Tasks: []task{job(9, 2, 5, 3, 0)}}, []int{0}},
		{"a repair starts it", api.State{Robots: faulted, Tasks: []task{job(9, 2, 5, 3, 0)}}, inputs{{Kind: api.Repair}},
			api.State{Robots: []robot{bot(1, 2, 9, 499, 0)}, Tasks: []task{job(9, 2, 5, 3, 0)}}, []int{2}},
		{"a repair gives a robot", api.State{Robots: []robot{bot(0, 4, 0, 500, 0)}, Tasks: []task{job(9, 2, 0, 1, -1)}}, inputs{{Kind: api.Repair}},
			api.State{Robots: []robot{bot(1, 1, 9, 499, 0)}, Tasks: []task{job(9, 2, 0, 2, 0)}}, []int{2}},
		{"a stall holds a robot", api.State{Robots: fetching[:1], Tasks: []task{job(9, 2, 0, 2, 0)}}, inputs{{Kind: api.Stall, B: 1}},
			api.State{Robots: fetching[:1], Tasks: []task{job(9, 2, 0, 2, 0)}}, []int{0}},
		{"a block stops it", api.State{Robots: fetching[:1], Tasks: []task{job(9, 2, 0, 2, 0)}}, inputs{{Kind: api.Block, A: 1}},
			api.State{Robots: fetching[:1], Tasks: []task{job(9, 2, 0, 2, 0)}, Blocked: []int{1}}, []int{0}},
		{"a block changes who is best", api.State{Robots: idle}, inputs{order, {Kind: api.Block, A: 1}},
			api.State{Robots: []robot{idle[0], bot(4, 1, 9, 499, 0)}, Tasks: []task{job(9, 2, 0, 2, 1)}, Blocked: []int{1}}, []int{0, 4}},
		{"a clear lets it go", api.State{Robots: fetching[:1], Tasks: []task{job(9, 2, 0, 2, 0)}, Blocked: []int{1, 3}}, inputs{{Kind: api.Clear, A: 1}},
			api.State{Robots: []robot{bot(1, 1, 9, 499, 0)}, Tasks: []task{job(9, 2, 0, 2, 0)}, Blocked: []int{3}}, []int{2}},
		{"one after the other", api.State{Robots: fetching[:1], Tasks: []task{job(9, 2, 0, 2, 0)}}, inputs{{Kind: api.Block, A: 1}, {Kind: api.Clear, A: 1}, {Kind: api.Fault}, {Kind: api.Repair}},
			api.State{Robots: []robot{bot(1, 1, 9, 499, 0)}, Tasks: []task{job(9, 2, 0, 2, 0)}}, []int{2}},
	} {
		expect(t, x.name, g, x.s, x.l, result{x.want, make(codes, len(x.l)), x.ways})
	}
}

// TestDispatchComesBeforePlans has robots that are given something to do, and go in the same tick.
func TestDispatchComesBeforePlans(t *testing.T) {
	g := parse(t, "C....S")
	s := api.State{Robots: []robot{bot(2, 0, 0, 99, 0), bot(3, 0, 0, 100, 0)}, Tasks: []task{job(3, 5, 0, 1, -1), job(4, 5, 0, 1, -1)}}
	u := api.State{Robots: []robot{bot(1, 3, 0, 98, 0), bot(4, 1, 3, 99, 0)}, Tasks: []task{job(3, 5, 0, 2, 1), job(4, 5, 0, 1, -1)}}
	expectQuiet(t, "charged and sent", g, s, u, api.West, api.East)
	// A robot that becomes idle in a tick is given nothing in it.
	s = api.State{Robots: []robot{bot(1, 2, 3, 99, 0)}, Tasks: []task{job(3, 5, 0, 3, 0), job(4, 0, 5, 1, -1)}}
	u = api.State{Robots: []robot{bot(0, 0, 0, 98, 0)}, Tasks: []task{job(3, 5, 0, 4, 0), job(4, 0, 5, 1, -1)}}
	expectQuiet(t, "done, with a low battery", g, s, u, api.West)
	s.Robots[0].Battery, u.Robots[0].Battery = 101, 100
	expectQuiet(t, "done, with a battery that is enough", g, s, u, api.West)
	v := api.State{Tick: 1, Robots: []robot{bot(0, 2, 4, 100, 0)}, Tasks: []task{job(3, 5, 0, 4, 0), job(4, 0, 5, 3, 0)}}
	u.Tick = 1
	expectQuiet(t, "the next task", g, u, v, api.Stay)
}

// carrier returns the state of a robot that carries a task from some other cell to another one.
func carrier(g api.Grid, cell, to int) api.State {
	from := 0
	for from == to || !grid.Floor(g, from) {
		from++
	}
	return api.State{Tick: 7, Robots: []robot{bot(cell, 2, 6, 300, 0)}, Tasks: []task{job(6, from, to, 3, 0)}}
}

// TestDirections has one robot, that goes in each direction or stays.
func TestDirections(t *testing.T) {
	open := parse(t, ".....", ".....", ".....", ".....", ".....")
	for _, x := range []struct {
		name     string
		g        api.Grid
		cell, to int
		blocked  []int
		way      int
	}{
		{"north", open, 12, 2, nil, api.North},
		{"east", open, 12, 14, nil, api.East},
		{"south", open, 12, 22, nil, api.South},
		{"west", open, 12, 10, nil, api.West},
		{"north comes before east", open, 12, 4, nil, api.North},
		{"north comes before west", open, 12, 0, nil, api.North},
		{"east comes before south", open, 12, 24, nil, api.East},
		{"south comes before west", open, 12, 20, nil, api.South},
		{"around a blocked cell", open, 12, 2, []int{7}, api.East},
		{"around two blocked cells", open, 12, 2, []int{7, 13}, api.West},
		{"back around three blocked cells", open, 12, 2, []int{7, 11, 13}, api.South},
		{"blocked on all sides", open, 12, 2, []int{7, 11, 13, 17}, api.Stay},
		{"from a blocked cell", open, 12, 2, []int{12}, api.North},
		{"the goal is blocked", open, 12, 2, []int{2}, api.Stay},
		{"far blocked cells", open, 12, 2, []int{0, 24}, api.North},
		{"a wall between", parse(t, "..#.."), 1, 3, nil, api.Stay},
		{"walls around", parse(t, ".#..", "####"), 0, 3, nil, api.Stay},
		{"along one-way cells", parse(t, ">>>>"), 0, 3, nil, api.East},
		{"along one-way cells, back", parse(t, "<<<<"), 3, 0, nil, api.West},
		{"along one-way cells, down", parse(t, "v", "v", "v"), 0, 2, nil, api.South},
		{"along one-way cells, up", parse(t, "^", "^", "^"), 2, 0, nil, api.North},
		{"against one-way cells", parse(t, ">>>>"), 3, 0, nil, api.Stay},
		{"around in a ring", parse(t, ">>v", "^<<"), 1, 0, nil, api.East},
		{"a column", parse(t, ".", ".", "."), 2, 0, nil, api.North},
		{"a row", parse(t, "..."), 2, 0, nil, api.West},
		{"two columns, where rows and columns lead alike", parse(t, "..", ".."), 1, 2, nil, api.South},
		{"cells of all kinds", parse(t, "SCS."), 0, 3, nil, api.East},
	} {
		s := carrier(x.g, x.cell, x.to)
		s.Blocked = x.blocked
		u := state.Copy(s)
		if x.way != api.Stay {
			u.Robots[0].Cell, _ = grid.Goes(x.g, x.cell, x.way)
			u.Robots[0].Battery = 299
		}
		expectQuiet(t, x.name, x.g, s, u, x.way)
	}
}

// TestOneDirectionLeads has all grids of some shapes: no two directions lead to the same cell of a valid grid, so that
// the least one is the only one.
func TestOneDirectionLeads(t *testing.T) {
	for _, side := range [][2]int{{1, 1}, {1, 2}, {2, 1}, {1, 3}, {3, 1}, {2, 2}, {2, 3}, {3, 2}, {3, 3}} {
		g := api.Grid{W: side[0], H: side[1], Cells: strings.Repeat(".", side[0]*side[1])}
		for cell := range g.Cells {
			leads := map[int]int{}
			for _, way := range grid.Ways(g, cell) {
				to, _ := grid.Goes(g, cell, way)
				if leads[to]++; leads[to] > 1 {
					t.Errorf("several directions lead from %d to %d in %v", cell, to, g)
				}
				if to == cell {
					continue
				}
				s := carrier(g, cell, to)
				u := state.Copy(s)
				u.Robots[0] = bot(to, 0, 0, 299, 0)
				u.Tasks[0].State = api.Done
				expectQuiet(t, "beside", g, s, u, way)
			}
		}
	}
}

// TestBattery has robots of some batteries, that move and that stay.
func TestBattery(t *testing.T) {
	g := parse(t, "...#.")
	for _, battery := range []int{0, 1, 2, 99, 100, 101, 999, 1000} {
		name := fmt.Sprintf("battery %d", battery)
		moving := carrier(g, 0, 2)
		moving.Robots[0].Battery = battery
		u := state.Copy(moving)
		way := api.Stay
		if battery > 0 {
			way = api.East
			u.Robots[0].Cell, u.Robots[0].Battery = 1, battery-1
		}
		expectQuiet(t, name+", moving", g, moving, u, way)
		staying := carrier(g, 1, 4)
		staying.Robots[0].Battery = battery
		expectQuiet(t, name+", without a path", g, staying, staying, api.Stay)
		held := carrier(g, 0, 2)
		held.Robots[0].Battery, held.Robots[0].Hold = battery, 2
		expectQuiet(t, name+", held", g, held, with(held, func(s *api.State) { s.Robots[0].Hold = 1 }), api.Stay)
		faulted := carrier(g, 0, 2)
		faulted.Robots[0].Battery, faulted.Robots[0].Mode = battery, api.Faulted
		expectQuiet(t, name+", faulted", g, faulted, faulted, api.Stay)
	}
	// A battery that has run empty leaves the robot where it is, for ever.
	s := carrier(g, 0, 2)
	s.Robots[0].Battery = 1
	want := with(s, func(s *api.State) { s.Tick += 50; s.Robots[0].Cell, s.Robots[0].Battery = 1, 0 })
	if u := step.Run(g, s, make([][]api.Input, 50)); !state.Same(u, want) {
		t.Errorf("empty: %v, want %v", u, want)
	}
}

// TestHold has robots of all modes that are held, none of which goes until it is not held any more.
func TestHold(t *testing.T) {
	g := parse(t, "C....")
	for _, hold := range []int{0, 1, 2, 3, 999, 1000} {
		name := fmt.Sprintf("hold %d", hold)
		after := max(hold-1, 0)
		for _, x := range []struct {
			name string
			r    robot
			l    []task
			way  int
		}{
			{"idle", bot(2, 0, 0, 500, hold), nil, 0},
			{"fetching", bot(2, 1, 6, 500, hold), []task{job(6, 4, 0, 2, 0)}, 2},
			{"carrying", bot(2, 2, 6, 500, hold), []task{job(6, 4, 0, 3, 0)}, 4},
			{"charging", bot(2, 3, 0, 500, hold), nil, 4},
			{"faulted", bot(2, 4, 0, 500, hold), nil, 0},
			{"faulted with a task", bot(2, 4, 6, 500, hold), []task{job(6, 4, 0, 3, 0)}, 0},
		} {
			s := api.State{Robots: []robot{x.r}, Tasks: x.l}
			u := state.Copy(s)
			u.Robots[0].Hold = after
			way := api.Stay
			if hold == 0 && x.way != api.Stay {
				way = x.way
				u.Robots[0].Cell, _ = grid.Goes(g, 2, way)
				u.Robots[0].Battery = 499
			}
			expectQuiet(t, name+", "+x.name, g, s, u, way)
		}
	}
	// It is held for as many ticks as its Hold was.
	s := carrier(g, 1, 4)
	s.Robots[0].Hold = 3
	for i, cell := range []int{1, 1, 1, 2, 3, 4} {
		if u := step.Run(g, s, make([][]api.Input, 1+i)); u.Robots[0].Cell != cell || u.Robots[0].Hold != max(0, 2-i) {
			t.Errorf("after %d ticks the robot is %v", 1+i, u.Robots[0])
		}
	}
}

// TestFetching has robots that fetch, and come to their task's From, are there, or are not.
func TestFetching(t *testing.T) {
	g := parse(t, "......")
	for _, x := range []struct {
		name   string
		before robot
		from   int
		after  robot
		way    int
	}{
		{"comes there", bot(1, 1, 6, 500, 0), 2, bot(2, 2, 6, 499, 0), api.East},
		{"comes there, back", bot(3, 1, 6, 500, 0), 2, bot(2, 2, 6, 499, 0), api.West},
		{"comes there, with its last battery", bot(1, 1, 6, 1, 0), 2, bot(2, 2, 6, 0, 0), api.East},
		{"is there", bot(2, 1, 6, 500, 0), 2, bot(2, 2, 6, 500, 0), api.Stay},
		{"is there, held", bot(2, 1, 6, 500, 1), 2, bot(2, 2, 6, 500, 0), api.Stay},
		{"is there, held for long", bot(2, 1, 6, 500, 9), 2, bot(2, 2, 6, 500, 8), api.Stay},
		{"is there, without battery", bot(2, 1, 6, 0, 0), 2, bot(2, 2, 6, 0, 0), api.Stay},
		{"is not there yet", bot(0, 1, 6, 500, 0), 2, bot(1, 1, 6, 499, 0), api.East},
		{"is held beside it", bot(1, 1, 6, 500, 1), 2, bot(1, 1, 6, 500, 0), api.Stay},
		{"is in the task's To", bot(5, 1, 6, 500, 0), 3, bot(4, 1, 6, 499, 0), api.West},
		{"comes to the task's To", bot(4, 1, 6, 1, 7), 3, bot(4, 1, 6, 1, 6), api.Stay},
	} {
		// The robot's task is not the first one.
		l := []task{job(2, x.after.Cell, (x.after.Cell+1)%6, 4, 0), job(6, x.from, 5, 2, 0)}
		s := api.State{Tick: 3, Robots: []robot{x.before}, Tasks: l}
		u := api.State{Robots: []robot{x.after}, Tasks: slices.Clone(l)}
		u.Tasks[1].State = x.after.Mode + 1
		expectQuiet(t, x.name, g, s, u, x.way)
	}
}

// TestCarrying has robots that carry, and come to their task's To, are there, or are not.
func TestCarrying(t *testing.T) {
	g := parse(t, "......")
	for _, x := range []struct {
		name   string
		before robot
		to     int
		after  robot
		way    int
	}{
		{"comes there", bot(1, 2, 6, 500, 0), 2, bot(2, 0, 0, 499, 0), api.East},
		{"comes there, back", bot(3, 2, 6, 500, 0), 2, bot(2, 0, 0, 499, 0), api.West},
		{"comes there, with its last battery", bot(1, 2, 6, 1, 0), 2, bot(2, 0, 0, 0, 0), api.East},
		{"is there", bot(2, 2, 6, 500, 0), 2, bot(2, 0, 0, 500, 0), api.Stay},
		{"is there, held", bot(2, 2, 6, 500, 2), 2, bot(2, 0, 0, 500, 1), api.Stay},
		{"is there, without battery", bot(2, 2, 6, 0, 0), 2, bot(2, 0, 0, 0, 0), api.Stay},
		{"is not there yet", bot(0, 2, 6, 500, 0), 2, bot(1, 2, 6, 499, 0), api.East},
		{"is held beside it", bot(1, 2, 6, 500, 1), 2, bot(1, 2, 6, 500, 0), api.Stay},
		{"is in the task's From", bot(5, 2, 6, 500, 0), 3, bot(4, 2, 6, 499, 0), api.West},
		{"comes to the task's From", bot(5, 2, 6, 500, 3), 0, bot(5, 2, 6, 500, 2), api.Stay},
	} {
		l := []task{job(2, (x.after.Cell+1)%6, x.after.Cell, 4, 0), job(6, 5, x.to, 3, 0)}
		s := api.State{Tick: 3, Robots: []robot{x.before}, Tasks: l}
		u := api.State{Robots: []robot{x.after}, Tasks: slices.Clone(l)}
		if x.after.Mode == api.Idle {
			u.Tasks[1].State = api.Done
		}
		expectQuiet(t, x.name, g, s, u, x.way)
	}
}

// TestOneThingInATick has robots that could do several things in a cell, one after the other.
func TestOneThingInATick(t *testing.T) {
	g := parse(t, "C.C")
	s := api.State{Robots: []robot{bot(0, 1, 6, 500, 0)}, Tasks: []task{job(6, 0, 1, 2, 0)}}
	u := api.State{Robots: []robot{bot(0, 2, 6, 500, 0)}, Tasks: []task{job(6, 0, 1, 3, 0)}}
	expectQuiet(t, "one that loads in a charger is not charged", g, s, u, api.Stay)
	s = api.State{Robots: []robot{bot(1, 2, 6, 50, 0)}, Tasks: []task{job(6, 0, 2, 3, 0)}}
	u = api.State{Robots: []robot{bot(2, 0, 0, 49, 0)}, Tasks: []task{job(6, 0, 2, 4, 0)}}
	expectQuiet(t, "one that unloads in a charger is not charged", g, s, u, api.East)
	u.Tick = 1
	charging := api.State{Robots: []robot{bot(2, 3, 0, 69, 0)}, Tasks: u.Tasks}
	expectQuiet(t, "but in the next tick", g, u, charging, api.Stay)
	// A state in which a task ends where it begins is not valid, but shows that a robot that loads is not looked at
	// again.
	s = api.State{Robots: []robot{bot(0, 1, 6, 500, 0)}, Tasks: []task{job(6, 0, 0, 2, 0)}}
	if v, _, _ := step.Step(g, s, nil); v.Robots[0] != (bot(0, 2, 6, 500, 0)) || v.Tasks[0].State != api.Carried {
		t.Errorf("one that loads: %v", v)
	}
}

// TestWhoseTask has several robots with tasks whose order is another one, one of which is done by each.
func TestWhoseTask(t *testing.T) {
	g := parse(t, "....", "....", "....")
	s := api.State{
		Robots: []robot{bot(0, 2, 30, 900, 0), bot(4, 1, 10, 800, 0), bot(8, 2, 20, 700, 0), bot(3, 4, 40, 600, 2), bot(7, 0, 0, 500, 0)},
		Tasks: []task{
			job(10, 5, 6, api.Taken, 1),
			job(50, 7, 3, api.Done, 4),
			job(20, 0, 11, api.Carried, 2),
			job(40, 0, 3, api.Carried, 3),
			job(30, 8, 1, api.Carried, 0),
		},
	}
	u := api.State{
		Robots: []robot{bot(1, 0, 0, 899, 0), bot(5, 2, 10, 799, 0), bot(9, 2, 20, 699, 0), bot(3, 4, 40, 600, 1), bot(7, 0, 0, 500, 0)},
		Tasks: []task{
			job(10, 5, 6, api.Carried, 1),
			job(50, 7, 3, api.Done, 4),
			job(20, 0, 11, api.Carried, 2),
			job(40, 0, 3, api.Carried, 3),
			job(30, 8, 1, api.Done, 0),
		},
	}
	expectQuiet(t, "several", g, s, u, 2, 2, 2, 0, 0)
}

// TestCharging has robots that charge, in a charger and elsewhere.
func TestCharging(t *testing.T) {
	g := parse(t, "...C.#.")
	for _, x := range []struct {
		name          string
		before, after robot
		way           int
	}{
		{"empty", bot(3, 3, 0, 0, 0), bot(3, 3, 0, 20, 0), 0},
		{"low", bot(3, 3, 0, 99, 0), bot(3, 3, 0, 119, 0), 0},
		{"not up to the most", bot(3, 3, 0, 979, 0), bot(3, 3, 0, 999, 0), 0},
		{"exactly up to the most", bot(3, 3, 0, 980, 0), bot(3, 0, 0, 1000, 0), 0},
		{"beyond the most", bot(3, 3, 0, 981, 0), bot(3, 0, 0, 1000, 0), 0},
		{"almost full", bot(3, 3, 0, 999, 0), bot(3, 0, 0, 1000, 0), 0},
		{"full", bot(3, 3, 0, 1000, 0), bot(3, 0, 0, 1000, 0), 0},
		{"held", bot(3, 3, 0, 500, 4), bot(3, 3, 0, 520, 3), 0},
		{"held, up to the most", bot(3, 3, 0, 980, 1), bot(3, 0, 0, 1000, 0), 0},
		{"comes there", bot(2, 3, 0, 50, 0), bot(3, 3, 0, 69, 0), api.East},
		{"comes there, back", bot(4, 3, 0, 50, 0), bot(3, 3, 0, 69, 0), api.West},
		{"comes there, with its last battery", bot(2, 3, 0, 1, 0), bot(3, 3, 0, 20, 0), api.East},
		{"comes there, not up to the most", bot(2, 3, 0, 980, 0), bot(3, 3, 0, 999, 0), api.East},
		{"comes there, exactly up to the most", bot(2, 3, 0, 981, 0), bot(3, 0, 0, 1000, 0), api.East},
		{"comes there, beyond the most", bot(2, 3, 0, 982, 0), bot(3, 0, 0, 1000, 0), api.East},
		{"comes there, full", bot(2, 3, 0, 1000, 0), bot(3, 0, 0, 1000, 0), api.East},
		{"is not there yet", bot(1, 3, 0, 50, 0), bot(2, 3, 0, 49, 0), api.East},
		{"is not there, full", bot(1, 3, 0, 1000, 0), bot(2, 3, 0, 999, 0), api.East},
		{"is not there, held and full", bot(1, 3, 0, 1000, 1), bot(1, 3, 0, 1000, 0), 0},
		{"is not there, empty", bot(2, 3, 0, 0, 0), bot(2, 3, 0, 0, 0), 0},
		{"cannot come there", bot(6, 3, 0, 50, 0), bot(6, 3, 0, 50, 0), 0},
		{"cannot come there, full", bot(6, 3, 0, 1000, 0), bot(6, 3, 0, 1000, 0), 0},
		{"idle in a charger", bot(3, 0, 0, 500, 0), bot(3, 0, 0, 500, 0), 0},
		{"idle and low in a charger", bot(3, 0, 0, 99, 0), bot(3, 3, 0, 119, 0), 0},
		{"idle and empty in a charger", bot(3, 0, 0, 0, 0), bot(3, 3, 0, 20, 0), 0},
		{"faulted in a charger", bot(3, 4, 0, 50, 0), bot(3, 4, 0, 50, 0), 0},
	} {
		expectQuiet(t, x.name, g, api.State{Robots: []robot{x.before}}, api.State{Robots: []robot{x.after}}, x.way)
	}
	s := api.State{Robots: []robot{bot(3, 3, 0, 50, 0)}, Blocked: []int{3}}
	expectQuiet(t, "in a blocked charger", g, s, with(s, func(s *api.State) { s.Robots[0].Battery = 70 }), 0)
	s.Robots[0].Cell = 2
	expectQuiet(t, "beside a blocked charger", g, s, s, 0)
	for _, letter := range []string{".", "S", ">", "<", "^", "v"} {
		s := api.State{Robots: []robot{bot(1, 3, 0, 50, 0)}}
		expectQuiet(t, "in a cell that is none", parse(t, "."+letter+"."), s, s, 0)
	}
}

// TestCharge has a robot that is charged until it is full, and then is given a task that was waiting.
func TestCharge(t *testing.T) {
	g := parse(t, "..C.")
	s := api.State{Robots: []robot{bot(0, 0, 0, 99, 0)}, Tasks: []task{job(1, 0, 3, 1, -1)}}
	for _, x := range []struct {
		ticks int
		want  robot
	}{
		{1, bot(1, 3, 0, 98, 0)},
		{2, bot(2, 3, 0, 117, 0)},
		{3, bot(2, 3, 0, 137, 0)},
		{46, bot(2, 3, 0, 997, 0)},
		{47, bot(2, 0, 0, 1000, 0)},
		{48, bot(1, 1, 1, 999, 0)},
		{49, bot(0, 2, 1, 998, 0)},
		{52, bot(3, 0, 0, 995, 0)},
		{99, bot(3, 0, 0, 995, 0)},
	} {
		if u := step.Run(g, s, make([][]api.Input, x.ticks)); u.Robots[0] != x.want || u.Tick != x.ticks {
			t.Errorf("after %d ticks: %v, want %v", x.ticks, u, x.want)
		}
	}
}

// TestIdleAndFaulted has robots that do nothing in any cell: one that is their task's, or a charger.
func TestIdleAndFaulted(t *testing.T) {
	g := parse(t, ".SC..")
	for cell := range g.Cells {
		idle := api.State{Robots: []robot{bot(cell, 0, 0, 500, 0)}, Tasks: []task{job(1, cell, (cell+1)%5, 4, 0), job(2, (cell+1)%5, cell, 4, 0)}}
		expectQuiet(t, "idle", g, idle, idle, 0)
		for _, ends := range [][2]int{{cell, (cell + 1) % 5}, {(cell + 1) % 5, cell}} {
			faulted := api.State{Robots: []robot{bot(cell, 4, 1, 50, 0)}, Tasks: []task{job(1, ends[0], ends[1], 3, 0)}}
			expectQuiet(t, "faulted", g, faulted, faulted, 0)
		}
	}
}

// crew returns robots that carry, each from a cell to another one.
func crew(cells, goals []int) api.State {
	var s api.State
	for i, cell := range cells {
		s.Robots = append(s.Robots, bot(cell, 2, 1+i, 500, 0))
		s.Tasks = append(s.Tasks, job(1+i, cell, goals[i], 3, i))
	}
	return s
}

// TestSeveralRobots has robots that are in each other's way: those that move arrive, and those that stay are stopped by
// the gate, or have no path.
func TestSeveralRobots(t *testing.T) {
	for _, x := range []struct {
		name         string
		g            api.Grid
		cells, goals []int
		blocked      []int
		ways         []int
	}{
		{"two want one cell", parse(t, "..."), []int{0, 2}, []int{1, 1}, nil, []int{2, 0}},
		{"two want one cell, in the other order", parse(t, "..."), []int{2, 0}, []int{1, 1}, nil, []int{4, 0}},
		{"three want one cell", parse(t, "...", "#.#"), []int{4, 0, 2}, []int{1, 1, 1}, nil, []int{1, 0, 0}},
		{"two would exchange their cells", parse(t, ".."), []int{0, 1}, []int{1, 0}, nil, []int{0, 0}},
		{"two would exchange their cells, up and down", parse(t, ".", "."), []int{0, 1}, []int{1, 0}, nil, []int{0, 0}},
		{"one waits for the one that gives way", parse(t, "...", "#.#"), []int{0, 1}, []int{2, 0}, nil, []int{2, 3}},
		{"one goes around", parse(t, "..", ".."), []int{0, 1}, []int{1, 0}, nil, []int{2, 3}},
		{"a ring", parse(t, "..", ".."), []int{0, 1, 3, 2}, []int{1, 3, 2, 0}, nil, []int{2, 3, 4, 1}},
		{"a ring of one-way cells", parse(t, ">v", "^<"), []int{3, 0, 2, 1}, []int{2, 1, 0, 3}, nil, []int{4, 2, 1, 3}},
		{"a ring with a blocked cell", parse(t, "..", ".."), []int{0, 1, 3, 2}, []int{1, 3, 2, 0}, []int{2}, []int{0, 0, 0, 0}},
		{"a row one behind the other", parse(t, "....."), []int{0, 1, 2}, []int{2, 3, 4}, nil, []int{2, 2, 2}},
		{"a row one behind the other, backwards", parse(t, "....."), []int{2, 1, 0}, []int{4, 3, 2}, nil, []int{2, 2, 2}},
		{"a row of which the first one cannot go", parse(t, "....."), []int{0, 1, 2}, []int{2, 3, 4}, []int{3}, []int{0, 0, 0}},
		{"a row of which the first one cannot go, backwards", parse(t, "....."), []int{2, 1, 0}, []int{4, 3, 1}, []int{3}, []int{0, 0, 0}},
		{"different rows", parse(t, "...", "..."), []int{0, 5}, []int{2, 3}, nil, []int{2, 4}},
		{"crossing", parse(t, ".#.", "...", ".#."), []int{3, 0}, []int{5, 6}, nil, []int{2, 3}},
		{"blocked between", parse(t, "..."), []int{0, 2}, []int{2, 0}, []int{1}, []int{0, 0}},
	} {
		s := crew(x.cells, x.goals)
		s.Blocked = x.blocked
		want := judge(x.g, valid(t, x.g, s), nil)
		if !slices.Equal(want.ways, x.ways) {
			t.Errorf("%s: the judge has the directions %v, want %v", x.name, want.ways, x.ways)
		}
		u := state.Copy(s)
		for i, way := range x.ways {
			u.Robots[i].Cell, _ = grid.Goes(x.g, x.cells[i], way)
			if way != api.Stay {
				u.Robots[i].Battery--
			}
			if u.Robots[i].Cell == x.goals[i] {
				u.Robots[i].Mode, u.Robots[i].Task, u.Tasks[i].State = api.Idle, 0, api.Done
			}
		}
		expectQuiet(t, x.name, x.g, s, u, x.ways...)
	}
}

// TestGateStops has robots whose paths lead into the cell of one that has no path, and those behind them.
func TestGateStops(t *testing.T) {
	for _, x := range []struct {
		name         string
		g            api.Grid
		cells, goals []int
		wants        []int
		ways         []int
	}{
		{"one that faces another one", parse(t, ".."), []int{0, 1}, []int{1, 0}, []int{1, 1}, []int{0, 0}},
		{"one that goes through another one", parse(t, "..."), []int{0, 1, 2}, []int{2, 0, 1}, []int{1, 1, 2}, []int{0, 0, 0}},
		{"one after the other", parse(t, "..."), []int{0, 1, 2}, []int{1, 2, 0}, []int{1, 2, 2}, []int{0, 0, 0}},
		{"not one elsewhere", parse(t, "..#.."), []int{0, 1, 3}, []int{1, 0, 4}, []int{1, 1, 4}, []int{0, 0, 2}},
	} {
		s := crew(x.cells, x.goals)
		for i, path := range plan.Plans(x.g, valid(t, x.g, s)) {
			if path[1] != x.wants[i] {
				t.Fatalf("%s: the path of robot %d is %v", x.name, i, path)
			}
		}
		u := state.Copy(s)
		for i, way := range x.ways {
			if way != api.Stay {
				u.Robots[i], u.Tasks[i].State = bot(x.goals[i], 0, 0, 499, 0), api.Done
			}
		}
		expectQuiet(t, x.name, x.g, s, u, x.ways...)
	}
}

func TestWithoutRobotsOrTasks(t *testing.T) {
	g := parse(t, "...")
	expectQuiet(t, "nothing", g, api.State{}, api.State{})
	without := api.State{Tick: 7, Tasks: []task{job(4, 1, 2, 1, -1)}, Blocked: []int{1}}
	expectQuiet(t, "no robots", g, without, without)
	order := inputs{{Kind: api.Order, A: 9, B: 0, C: 2}, {Kind: api.Clear, A: 1}, {Kind: api.Fault}}
	after := api.State{Tasks: []task{job(4, 1, 2, 1, -1), job(9, 0, 2, 1, -1)}}
	expect(t, "no robots, and inputs", g, without, order, result{after, codes{0, 0, api.ErrName}, nil})
	none := api.State{Tick: 8, Robots: []robot{bot(0, 0, 0, 500, 1), bot(2, 4, 0, 0, 0)}, Blocked: []int{0}}
	expectQuiet(t, "no tasks", g, none, with(none, func(s *api.State) { s.Robots[0].Hold = 0 }), 0, 0)
	if u := step.Run(g, api.State{}, make([][]api.Input, 3)); !state.Same(u, api.State{Tick: 3}) {
		t.Errorf("Run of nothing: %v", u)
	}
}

func TestTick(t *testing.T) {
	g := parse(t, "..")
	for _, tick := range []int{0, 1, 2, 99, 1 << 16, 1<<31 - 1<<20, mostTick - 1, mostTick} {
		s := api.State{Tick: tick, Robots: []robot{bot(0, 0, 0, 500, 0)}}
		u, _, _ := step.Step(g, valid(t, g, s), nil)
		if u.Tick != tick+1 {
			t.Errorf("the Tick after %d is %d", tick, u.Tick)
		}
		if u = step.Run(g, s, make([][]api.Input, 5)); u.Tick != tick+5 {
			t.Errorf("the Tick 5 after %d is %d", tick, u.Tick)
		}
	}
}

// runner returns what Step after Step makes of a state.
func runner(g api.Grid, s api.State, l [][]api.Input) api.State {
	for _, x := range l {
		s, _, _ = step.Step(g, s, x)
	}
	return s
}

func TestRun(t *testing.T) {
	g := parse(t, "..C..", "S.#..", ".....")
	s, _ := state.New(g, []int{0, 14, 4})
	s.Robots[2].Battery = 50
	order := inputs{{Kind: api.Order, A: 1, B: 5, C: 13}, {Kind: api.Order, A: 2, B: 9, C: 0}}
	wrong := inputs{{Kind: api.Order, A: 1, B: 5, C: 13}, {Kind: 9}, {Kind: api.Fault, A: 1}}
	repair := inputs{{Kind: api.Repair, A: 1}, {Kind: api.Block, A: 7}, {Kind: api.Block, A: 6}}
	for _, l := range [][][]api.Input{
		nil,
		{},
		{nil},
		{{}},
		{order},
		{order, nil},
		{nil, order},
		{wrong},
		{order, wrong, repair},
		{order, nil, {}, wrong, nil, repair, nil, nil, nil, {{Kind: api.Clear, A: 6}}, nil},
		slices.Insert(make([][]api.Input, 30), 3, order, wrong, repair),
		slices.Insert(make([][]api.Input, 300), 3, order, wrong, repair),
	} {
		was := state.Copy(s)
		u := step.Run(g, s, l)
		if want := runner(g, s, l); !state.Same(u, want) || u.Tick != len(l) {
			t.Errorf("Run of %s is\n%s, want\n%s", brief(l), brief(u), brief(want))
		}
		if !state.Same(s, was) {
			t.Fatalf("Run of %s changed its argument", brief(l))
		}
	}
	if u := step.Run(g, s, nil); !state.Same(u, s) {
		t.Errorf("Run of no element: %v", u)
	}
	// A run can be divided.
	l := [][]api.Input{order, nil, wrong, nil, repair, nil, nil}
	for i := range len(l) + 1 {
		if u := step.Run(g, step.Run(g, s, l[:i]), l[i:]); !state.Same(u, step.Run(g, s, l)) {
			t.Errorf("divided at %d: %v", i, u)
		}
	}
}

// TestRunOfMostElements has as many elements as something is promised of, up to the greatest Tick.
func TestRunOfMostElements(t *testing.T) {
	g := parse(t, "....", "..C.")
	s := api.State{Tick: mostTick, Robots: []robot{bot(0, 0, 0, 1000, 0), bot(7, 0, 0, 99, 1000)}}
	l := make([][]api.Input, mostElements)
	l[10] = inputs{{Kind: api.Order, A: 1, B: 2, C: 0}}
	l[mostElements-1] = inputs{{Kind: api.Order, A: 1<<31 - 1, B: 1, C: 2}}
	u := step.Run(g, valid(t, g, s), l)
	want := api.State{
		Tick:   1<<31 - 1,
		Robots: []robot{bot(1, 2, 1<<31-1, 995, 0), bot(6, 0, 0, 1000, 0)},
		Tasks:  []task{job(1, 2, 0, 4, 0), job(1<<31-1, 1, 2, 3, 0)},
	}
	if !state.Same(u, want) || !state.Right(g, u) {
		t.Errorf("%v, want %v", u, want)
	}
}

// expectJudged reports a Step that differs from the judge's. It returns the result.
func expectJudged(t *testing.T, name string, g api.Grid, s api.State, l inputs) result {
	t.Helper()
	want := judge(g, s, l)
	expect(t, name, g, s, l, want)
	if t.Failed() {
		t.FailNow()
	}
	return want
}

// pairs returns all pairs of two different ones of some cells.
func pairs(cells []int) [][2]int {
	var l [][2]int
	for _, a := range cells {
		for _, b := range cells {
			if a != b {
				l = append(l, [2]int{a, b})
			}
		}
	}
	return l
}

// floors returns all cells of a grid that are not walls.
func floors(g api.Grid) []int {
	var l []int
	for cell := range g.Cells {
		if grid.Floor(g, cell) {
			l = append(l, cell)
		}
	}
	return l
}

// busy returns a robot of a kind in a cell, and its task between two others if it has one.
func busy(i, kind, cell, from, to int) (robot, []task) {
	r := robot{Cell: cell, Mode: kind % 5, Task: 10 + i, Battery: []int{1, 99, 981, 1000}[(i+kind)%4], Hold: kind / 6}
	switch r.Mode {
	case api.Fetching:
		return r, []task{job(r.Task, from, to, 2, i)}
	case api.Carrying, api.Faulted:
		return r, []task{job(r.Task, from, to, 3, i)}
	}
	r.Task = 0
	return r, []task{job(10+i, from, to, 1, -1)}
}

// TestAllSmallStates has all states of two robots in small grids: their cells, what they do, and between which cells.
func TestAllSmallStates(t *testing.T) {
	moved, many := 0, 0
	for _, g := range []api.Grid{parse(t, ".."), parse(t, ".C."), parse(t, "..", "C."), parse(t, ">v", "^<"), parse(t, ".", "C", ".")} {
		for _, at := range pairs(floors(g)) {
			for _, first := range pairs(floors(g)) {
				for _, second := range pairs(floors(g)) {
					for kinds := range 7 * 7 {
						a, x := busy(0, kinds%7, at[0], first[0], first[1])
						b, y := busy(1, kinds/7, at[1], second[0], second[1])
						s := api.State{Robots: []robot{a, b}, Tasks: append(x, y...)}
						if kinds%5 == 4 {
							s.Blocked = []int{first[0]}
						}
						many++
						if l := expectJudged(t, "small", g, s, nil).ways; l[0] != 0 || l[1] != 0 {
							moved++
						}
					}
				}
			}
		}
	}
	if moved < many/4 {
		t.Errorf("in only %d of %d states a robot moved", moved, many)
	}
}

// chosenGrid returns a valid grid with some cells that are not walls, in some order, as r chooses.
func chosenGrid(r *rand.Rand) (api.Grid, []int) {
	for {
		g := api.Grid{W: 1 + r.Intn(7), H: 1 + r.Intn(7)}
		letters := []string{"..SC#", ".......C", "..<>^v.C", ".##.C"}[r.Intn(4)]
		for range g.W * g.H {
			g.Cells += letters[r.Intn(len(letters)):][:1]
		}
		cells := floors(g)
		r.Shuffle(len(cells), func(i, j int) { cells[i], cells[j] = cells[j], cells[i] })
		if grid.Right(g) && len(cells) > 1 {
			return g, cells
		}
	}
}

// chosen returns a grid and a valid state of robots and tasks of all kinds, as r chooses.
func chosen(t testing.TB, r *rand.Rand) (api.Grid, api.State) {
	t.Helper()
	g, cells := chosenGrid(r)
	s := api.State{Tick: r.Intn(100)}
	ends := func() (int, int) {
		l := pairs(cells)
		x := l[r.Intn(len(l))]
		return x[0], x[1]
	}
	for i, cell := range cells[:r.Intn(min(len(cells), 9)+1)] {
		x := robot{Cell: cell, Mode: r.Intn(5), Battery: []int{0, 1, 99, 100, 980, 981, 1000}[r.Intn(7)], Hold: r.Intn(3) * r.Intn(2)}
		if x.Mode == api.Fetching || x.Mode == api.Carrying || x.Mode == api.Faulted && r.Intn(2) == 0 {
			x.Task = 100 + i
			from, to := ends()
			s.Tasks = append(s.Tasks, job(x.Task, from, to, min(x.Mode+1, api.Carried), i))
		}
		s.Robots = append(s.Robots, x)
	}
	for i := range r.Intn(4) {
		from, to := ends()
		s.Tasks = append(s.Tasks, job(50-i, from, to, 1, -1))
		if len(s.Robots) > 0 && r.Intn(2) == 0 {
			s.Tasks = append(s.Tasks, job(1000+i, to, from, 4, r.Intn(len(s.Robots))))
		}
	}
	r.Shuffle(len(s.Tasks), func(i, j int) { s.Tasks[i], s.Tasks[j] = s.Tasks[j], s.Tasks[i] })
	for cell := range g.Cells {
		if grid.Floor(g, cell) && r.Intn(9) == 0 {
			s.Blocked = append(s.Blocked, cell)
		}
	}
	return g, valid(t, g, s)
}

// chosenInputs returns inputs of all kinds, as r chooses, of which some have errors.
func chosenInputs(r *rand.Rand, g api.Grid, s api.State, n int) inputs {
	var l inputs
	cells := len(g.Cells)
	for range r.Intn(n + 1) {
		x := api.Input{Kind: r.Intn(8)}
		switch x.Kind {
		case api.Order:
			x.A, x.B, x.C = r.Intn(2000), r.Intn(cells), r.Intn(cells)
		case api.Stall:
			x.A, x.B = r.Intn(len(s.Robots)+1), r.Intn(4)
		case api.Block, api.Clear:
			x.A = r.Intn(cells)
		default:
			x.A = r.Intn(len(s.Robots) + 1)
		}
		l = append(l, x)
	}
	return l
}

// TestChosenStates holds answers against the judge's.
func TestChosenStates(t *testing.T) {
	r := rand.New(rand.NewSource(1))
	loads, unloads, moved, stopped := 0, 0, 0, 0
	for range 6000 {
		g, s := chosen(t, r)
		l := chosenInputs(r, g, s, 4)
		u := expectJudged(t, "chosen", g, s, l)
		for i, x := range s.Tasks {
			if x.State < api.Carried && u.state.Tasks[i].State == api.Carried {
				loads++
			}
			if x.State == api.Carried && u.state.Tasks[i].State == api.Done {
				unloads++
			}
		}
		before, _ := input.All(g, s, l)
		before, _ = dispatch.Dispatch(g, before)
		for i, path := range plan.Plans(g, before) {
			if u.ways[i] != api.Stay {
				moved++
			} else if path[1] != before.Robots[i].Cell {
				stopped++
			}
		}
	}
	if min(loads, unloads, stopped) < 100 || moved < 1000 {
		t.Errorf("only %d loads, %d unloads, %d robots that moved, %d that were stopped", loads, unloads, moved, stopped)
	}
}

// TestTickAfterTick holds long runs with inputs against the theorem, and their ends against Run.
func TestTickAfterTick(t *testing.T) {
	r := rand.New(rand.NewSource(2))
	done := 0
	for range 200 {
		g, first := chosen(t, r)
		s := first
		var all [][]api.Input
		for range 80 {
			l := chosenInputs(r, g, s, 2)
			u, e, ways := step.Step(g, s, l)
			if len(e) != len(l) {
				t.Fatalf("Step(%v, %v, %v) has the codes %v", g, s, l, e)
			}
			expectTheorem(t, g, s, u, ways)
			for i := range s.Tasks {
				if s.Tasks[i].State != u.Tasks[i].State && u.Tasks[i].State == api.Done {
					done++
				}
			}
			s, all = u, append(all, l)
		}
		if u := step.Run(g, first, all); !state.Same(u, s) {
			t.Fatalf("Run(%v, %v, %v) is\n%v, want\n%v", g, first, all, u, s)
		}
	}
	if done < 100 {
		t.Errorf("only %d tasks were done", done)
	}
}

// TestAllOrdersAreDone has a robot that does many orders, with charging between, each once.
func TestAllOrdersAreDone(t *testing.T) {
	g := parse(t, "......", ".#..#.", "C#..#S", "......")
	s, _ := state.New(g, []int{0})
	s.Robots[0].Battery = 150
	var l [][]api.Input
	cells := floors(g)
	for i := range 40 {
		l = append(l, inputs{{Kind: api.Order, A: 1 + i, B: cells[i%len(cells)], C: cells[(3*i+5)%len(cells)]}}, nil)
	}
	charged, done := 0, map[int]int{}
	for tick := range 1000 {
		var x inputs
		if tick < len(l) {
			x = l[tick]
		}
		u, e, ways := step.Step(g, s, x)
		if slices.ContainsFunc(e, func(e api.Errno) bool { return e != api.OK }) {
			t.Fatalf("%v: %v", x, e)
		}
		expectTheorem(t, g, s, u, ways)
		for i, y := range s.Tasks {
			if y.State == api.Carried && u.Tasks[i].State == api.Done {
				done[y.Id]++
			}
		}
		if u.Robots[0].Battery > s.Robots[0].Battery {
			charged++
		}
		s = u
	}
	if len(done) != 40 || charged < 40 {
		t.Errorf("%d orders were done, with %d ticks of charging: %v", len(done), charged, s)
	}
	for id, n := range done {
		if n != 1 {
			t.Errorf("order %d was done %d times", id, n)
		}
	}
}

// spoil changes all that belongs to a result, and what lies behind it.
func spoil(u api.State, e codes, ways []int) {
	clear(u.Robots[:cap(u.Robots)])
	clear(u.Tasks[:cap(u.Tasks)])
	clear(u.Blocked[:cap(u.Blocked)])
	for i := range e[:cap(e)] {
		e[:cap(e)][i] = 77
	}
	for i := range ways[:cap(ways)] {
		ways[:cap(ways)][i] = 77
	}
}

func TestResultsShareNothing(t *testing.T) {
	g := parse(t, "......")
	robots := []robot{bot(0, 1, 5, 500, 0), bot(4, 0, 0, 500, 0), bot(-7, 0, 0, 1, 0)}
	tasks := []task{job(5, 3, 2, 2, 0), job(6, 5, 0, 1, -1), job(-7, 0, 0, 0, 0)}
	blocked := []int{5, 77}
	l := inputs{{Kind: api.Clear, A: 5}, {Kind: api.Block, A: 4}, {Kind: 9}, {Kind: -7}}
	s := valid(t, g, api.State{Robots: robots[:2], Tasks: tasks[:2], Blocked: blocked[:1]})
	was := state.Copy(s)
	for name, call := range map[string]func() result{
		"Step":                func() result { u, e, ways := step.Step(g, s, l[:3]); return result{u, e, ways} },
		"Step without inputs": func() result { u, e, ways := step.Step(g, s, nil); return result{u, e, ways} },
		"Run":                 func() result { return result{state: step.Run(g, s, [][]api.Input{l[:3], nil})} },
		"Run of one":          func() result { return result{state: step.Run(g, s, [][]api.Input{nil})} },
		"Run of none":         func() result { return result{state: step.Run(g, s, nil)} },
	} {
		first, second := call(), call()
		kept := result{state.Copy(second.state), slices.Clone(second.codes), slices.Clone(second.ways)}
		spoil(first.state, first.codes, first.ways)
		if !state.Same(second.state, kept.state) || !slices.Equal(second.codes, kept.codes) || !slices.Equal(second.ways, kept.ways) {
			t.Errorf("%s: two results share memory", name)
		}
		if !state.Same(s, was) || robots[2].Cell != -7 || tasks[2].Id != -7 || blocked[1] != 77 || l[0].Kind != api.Clear || l[3].Kind != -7 {
			t.Fatalf("%s: a result shares memory with an argument, or what lies behind it has changed", name)
		}
	}
	first, e, ways := step.Step(g, s, l[:3])
	last := step.Run(g, s, nil)
	kept := result{state.Copy(first), slices.Clone(e), slices.Clone(ways)}
	clear(robots)
	clear(tasks)
	clear(blocked)
	clear(l)
	if !state.Same(first, kept.state) || !slices.Equal(e, kept.codes) || !slices.Equal(ways, kept.ways) || !state.Same(last, was) {
		t.Error("an argument that changes changes a result")
	}
}

func TestEmptySlicesAreLikeNil(t *testing.T) {
	g := parse(t, "...")
	empty := api.State{Robots: []robot{}, Tasks: []task{}, Blocked: []int{}}
	expect(t, "empty", g, empty, inputs{}, result{})
	if u := step.Run(g, empty, [][]api.Input{}); !state.Same(u, api.State{}) {
		t.Errorf("Run of empty slices: %v", u)
	}
	s := api.State{Robots: []robot{bot(0, 2, 4, 500, 0)}, Tasks: []task{job(4, 0, 2, 3, 0)}}
	u := api.State{Robots: []robot{bot(1, 2, 4, 499, 0)}, Tasks: []task{job(4, 0, 2, 3, 0)}}
	expectQuiet(t, "nothing blocked, as nil", g, s, u, api.East)
	s.Blocked = []int{}
	expect(t, "nothing blocked, as an empty slice", g, s, inputs{}, result{u, codes{}, []int{api.East}})
}

func TestAnswersDependOnArgumentsAlone(t *testing.T) {
	r := rand.New(rand.NewSource(3))
	for range 200 {
		g, s := chosen(t, r)
		l := chosenInputs(r, g, s, 3)
		u, e, ways := step.Step(g, s, l)
		for range 5 {
			expect(t, "again", g, s, l, result{u, e, ways})
			g2, s2 := chosen(t, r)
			step.Step(g2, s2, chosenInputs(r, g2, s2, 3))
			step.Run(g2, s2, make([][]api.Input, 3))
		}
	}
}

func TestCallsAtTheSameTime(t *testing.T) {
	r := rand.New(rand.NewSource(4))
	g, s := chosen(t, r)
	for len(s.Robots) < 8 {
		g, s = chosen(t, r)
	}
	var all [][]api.Input
	for range 10 {
		all = append(all, chosenInputs(r, g, s, 3))
	}
	want, end := judge(g, s, all[0]), step.Run(g, s, all)
	var group sync.WaitGroup
	for range 8 {
		group.Go(func() {
			for range 50 {
				u, e, ways := step.Step(g, s, all[0])
				if !state.Same(u, want.state) || !slices.Equal(e, want.codes) || !slices.Equal(ways, want.ways) {
					t.Error("Step differs")
					return
				}
				if !state.Same(step.Run(g, s, all), end) {
					t.Error("Run differs")
					return
				}
			}
		})
	}
	group.Wait()
}

// TestWrongInputs has grids and states that are not valid: nothing is promised about them but that the calls end.
func TestWrongInputs(t *testing.T) {
	cells := append([]int{0, 1, 2, 3, 8}, absent...)
	for _, g := range []api.Grid{
		{},
		{W: 3},
		{W: 0, H: 3, Cells: "C.."},
		{W: -1, H: -3, Cells: "..C"},
		{W: math.MinInt, H: 1, Cells: "..C"},
		{W: math.MaxInt, H: math.MaxInt, Cells: ".C."},
		{W: 2, H: 2, Cells: "..C"},
		{W: 2, H: 1, Cells: "...C."},
		{W: 3, H: 1, Cells: "x?\x00"},
		{W: 2, H: 1, Cells: "\xff\n"},
		{W: 3, H: 1, Cells: ".C."},
		{W: 1, H: 3, Cells: "#C#"},
	} {
		for _, from := range cells {
			for _, cell := range cells {
				for mode := -1; mode < 7; mode++ {
					a := robot{Cell: cell, Mode: mode, Task: 3, Battery: 100 + cell, Hold: from}
					b := robot{Cell: from, Mode: mode, Task: mode, Battery: cell, Hold: -1}
					x := task{Id: mode, From: from, To: from, State: mode, Robot: cell}
					y := task{Id: 3, From: from, To: cell, State: api.Taken, Robot: cell}
					s := api.State{Tick: cell, Robots: []robot{a, b, a}, Tasks: []task{x, y, y}, Blocked: cells}
					l := inputs{{Kind: mode, A: cell, B: from, C: mode}, {Kind: api.Fault, A: 1}, {Kind: api.Block, A: cell}}
					u, e, ways := step.Step(g, s, l)
					if len(u.Robots) != 3 || len(e) != 3 || len(ways) != 3 {
						t.Errorf("Step(%v, %v, %v) = %v, %v, %v", g, s, l, u, e, ways)
					}
					step.Run(g, s, [][]api.Input{l, nil, l})
					s.Blocked = nil
					s.Robots[1].Cell++
					step.Run(g, s, [][]api.Input{nil, nil, l})
					s.Tasks = nil
					step.Run(g, s, [][]api.Input{nil, nil, l})
				}
			}
		}
	}
}

// TestRobotsThatShareACell has a state that is not valid: the gate has no answer for it, so that nobody moves.
func TestRobotsThatShareACell(t *testing.T) {
	g := parse(t, "....")
	s := api.State{Robots: []robot{bot(0, 2, 1, 500, 0), bot(0, 0, 0, 500, 2)}, Tasks: []task{job(1, 1, 2, 3, 0)}}
	u, e, ways := step.Step(g, s, inputs{{Kind: api.Block, A: 3}})
	want := api.State{Tick: 1, Robots: []robot{bot(0, 2, 1, 500, 0), bot(0, 0, 0, 500, 1)}, Tasks: s.Tasks, Blocked: []int{3}}
	if !state.Same(u, want) || !slices.Equal(e, codes{api.OK}) || !slices.Equal(ways, []int{0, 0}) {
		t.Errorf("%v, %v, %v", u, e, ways)
	}
}

// many returns the largest grid with as many robots and tasks as there can be, of which each has one.
func many(t testing.TB) (api.Grid, api.State) {
	t.Helper()
	r := rand.New(rand.NewSource(5))
	g := api.Grid{W: most, H: most, Cells: strings.Repeat(".", most*most)}
	cells := r.Perm(most * most)
	goals := slices.Clone(cells[2000:2004])
	var s api.State
	for i, cell := range cells[:api.MostRobots] {
		x := robot{Cell: cell, Battery: full}
		if i < api.MostTasks {
			x.Mode, x.Task = api.Carrying, api.MostTasks-i
			s.Tasks = append(s.Tasks, job(x.Task, cell, goals[i%len(goals)], api.Carried, i))
		}
		s.Robots = append(s.Robots, x)
	}
	slices.Reverse(s.Tasks)
	return g, valid(t, g, s)
}

func TestManyRobots(t *testing.T) {
	g, s := many(t)
	for range 3 {
		u, _, ways := step.Step(g, s, nil)
		expectTheorem(t, g, s, u, ways)
		moved := 0
		for _, way := range ways {
			if way != api.Stay {
				moved++
			}
		}
		if moved < api.MostRobots*9/10 {
			t.Errorf("only %d robots moved", moved)
		}
		s = u
	}
}

func TestImports(t *testing.T) {
	f, err := parser.ParseFile(token.NewFileSet(), "step.go", nil, parser.ImportsOnly)
	if err != nil {
		t.Fatal(err)
	}
	for _, i := range f.Imports {
		if !slices.Contains([]string{`"tugger/api"`, `"tugger/grid"`, `"tugger/state"`, `"tugger/input"`, `"tugger/gate"`, `"tugger/plan"`, `"tugger/dispatch"`}, i.Path.Value) {
			t.Error("step imports", i.Path.Value)
		}
	}
}

func BenchmarkStepOfManyRobots(b *testing.B) {
	g, s := many(b)
	for b.Loop() {
		step.Step(g, s, nil)
	}
}

func BenchmarkRunOfASmallWarehouse(b *testing.B) {
	g := parse(b, "....C", ".....")
	s, _ := state.New(g, []int{0, 4})
	l := make([][]api.Input, 1000)
	for i := range 100 {
		l[10*i] = inputs{{Kind: api.Order, A: 1 + i, B: i % 10, C: (i + 3) % 10}}
	}
	for b.Loop() {
		step.Run(g, s, l)
	}
}
