package input_test

import (
	"go/parser"
	"go/token"
	"math"
	"math/rand"
	"reflect"
	"slices"
	"strings"
	"sync"
	"testing"

	"tugger/api"
	"tugger/grid"
	"tugger/input"
	"tugger/state"
)

const (
	most    = api.MostSide
	greatID = 1<<31 - 1
	letters = ".#SC><^v"
)

// absent are numbers that are no cells, robots, kinds or Ids of anything.
var absent = []int{math.MinInt, math.MinInt + 1, -greatID, -most, -2, -1, most * most, most*most + 1, 1 << 32, math.MaxInt - 1, math.MaxInt}

// The base grid and the base state:
//
//	0  1  2#  3C
//	4S 5> 6   7
//	8  9# 10C 11
const baseText = "..#C\nS>..\n.#C.\n"

// The robots of the base state.
const (
	fetching = iota
	carrying
	charging
	faultedWithTask
	faulted
	idle
)

func base() api.State {
	return api.State{
		Tick: 77,
		Robots: []api.Robot{
			{Cell: 0, Mode: api.Fetching, Task: 5, Battery: 900},
			{Cell: 4, Mode: api.Carrying, Task: 9, Battery: 1, Hold: 2},
			{Cell: 7, Mode: api.Charging, Battery: 40},
			{Cell: 8, Mode: api.Faulted, Task: 6, Battery: 0, Hold: 1000},
			{Cell: 1, Mode: api.Faulted, Battery: 1000},
			{Cell: 11, Mode: api.Idle, Battery: 500},
		},
		Tasks: []api.Task{
			{Id: 2, From: 0, To: 11, State: api.Waiting, Robot: -1},
			{Id: 5, From: 1, To: 6, State: api.Taken, Robot: fetching},
			{Id: 9, From: 6, To: 1, State: api.Carried, Robot: carrying},
			{Id: 3, From: 3, To: 4, State: api.Done, Robot: idle},
			{Id: 6, From: 10, To: 5, State: api.Carried, Robot: faultedWithTask},
		},
		Blocked: []int{3, 5, 8, 10},
	}
}

// parse returns the grid of a text, which must be one.
func parse(t testing.TB, s string) api.Grid {
	t.Helper()
	g, e := grid.Parse(s)
	if e != api.OK {
		t.Fatalf("Parse(%q): %d", s, e)
	}
	return g
}

// with returns a state that part has changed, of which s keeps its own.
func with(s api.State, part func(s *api.State)) api.State {
	other := clone(s)
	part(&other)
	return other
}

// clone is the test's own copy of a state.
func clone(s api.State) api.State {
	return api.State{
		Tick:    s.Tick,
		Robots:  append([]api.Robot(nil), s.Robots...),
		Tasks:   append([]api.Task(nil), s.Tasks...),
		Blocked: append([]int(nil), s.Blocked...),
	}
}

// same is the test's own comparison of states.
func same(a, b api.State) bool { return reflect.DeepEqual(clone(a), clone(b)) }

// expect reports what Apply does other than to return a wanted state and error. All of that input must do so too.
func expect(t *testing.T, name string, g api.Grid, s api.State, x api.Input, want api.State, e api.Errno) {
	t.Helper()
	was := clone(s)
	u, got := input.Apply(g, s, x)
	if got != e || !same(u, want) {
		t.Errorf("%s: Apply of %v returns %.400v, %d, want %.400v, %d", name, x, u, got, want, e)
	}
	all, codes := input.All(g, s, []api.Input{x})
	if !same(all, want) || !slices.Equal(codes, []api.Errno{e}) {
		t.Errorf("%s: All of %v returns %.400v, %d, want %.400v, %d", name, x, all, codes, want, e)
	}
	if !same(s, was) {
		t.Errorf("%s: %v changed its argument", name, x)
	}
}

// expectError reports an input that does other than to leave the base state unchanged with a wanted error.
func expectError(t *testing.T, name string, x api.Input, e api.Errno) {
	t.Helper()
	expect(t, name, parse(t, baseText), base(), x, base(), e)
}

// expectChange reports an input that does other than to change the base state as part does.
func expectChange(t *testing.T, name string, x api.Input, part func(s *api.State)) {
	t.Helper()
	g := parse(t, baseText)
	want := with(base(), part)
	if !state.Right(g, want) {
		t.Errorf("%s: the wanted state is not valid", name)
	}
	expect(t, name, g, base(), x, want, api.OK)
}

func TestBaseIsValid(t *testing.T) {
	if !state.Right(parse(t, baseText), base()) {
		t.Fatal("the base state is not valid")
	}
}

func TestKindsThatDoNotExist(t *testing.T) {
	for _, kind := range append([]int{0, 7, 8, 256 + api.Order}, absent...) {
		// The numbers would do for each kind that exists.
		for _, x := range []api.Input{{A: 7, B: 0, C: 1}, {A: 0}, {A: 4}, {A: 0, B: 1}, {A: 0}, {A: 3}, {}} {
			x.Kind = kind
			expectError(t, "no kind", x, api.ErrForm)
			expect(t, "no kind, no state", parse(t, "#\n"), api.State{}, x, api.State{}, api.ErrForm)
		}
	}
}

func TestOrderOfEachId(t *testing.T) {
	for id, e := range map[int]api.Errno{
		1: api.OK, 4: api.OK, 7: api.OK, greatID - 1: api.OK, greatID: api.OK,
		0: api.ErrArg, -1: api.ErrArg, -7: api.ErrArg, greatID + 1: api.ErrArg, 1<<32 + 7: api.ErrArg,
		-greatID: api.ErrArg, math.MinInt: api.ErrArg, math.MaxInt: api.ErrArg,
		2: api.ErrTwice, 5: api.ErrTwice, 9: api.ErrTwice, 3: api.ErrTwice, 6: api.ErrTwice,
	} {
		x := api.Input{Kind: api.Order, A: id, B: 6, C: 0}
		if e != api.OK {
			expectError(t, "Id", x, e)
			continue
		}
		expectChange(t, "Id", x, func(s *api.State) {
			s.Tasks = append(s.Tasks, api.Task{Id: id, From: 6, To: 0, State: api.Waiting, Robot: -1})
		})
	}
}

func TestOrderOfEachPairOfCells(t *testing.T) {
	g := parse(t, baseText)
	cells := []int{-1, 0, 1, 2, 3, 4, 5, 6, 7, 8, 9, 10, 11, 12}
	for _, from := range append(cells, absent...) {
		for _, to := range append(cells, absent...) {
			x := api.Input{Kind: api.Order, A: 7, B: from, C: to}
			// Cells that robots are in, that are blocked and that other tasks have are as good as others.
			if from != to && floor(g, from) && floor(g, to) {
				expectChange(t, "cells", x, func(s *api.State) {
					s.Tasks = append(s.Tasks, api.Task{Id: 7, From: from, To: to, State: api.Waiting, Robot: -1})
				})
			} else if from == to {
				expectError(t, "from and to one cell", x, api.ErrArg)
			} else {
				expectError(t, "no cells", x, api.ErrName)
			}
		}
	}
}

// floor is the test's own judgment of cells.
func floor(g api.Grid, cell int) bool { return cell >= 0 && cell < g.W*g.H && g.Cells[cell] != '#' }

// tasks returns a state with a number of tasks that are done, waiting, taken and carried in turn, with the Ids from 1 on.
func tasks(n int) api.State {
	var s api.State
	for i := range n {
		task := api.Task{Id: i + 1, From: i % 9, To: i%9 + 1, State: api.Waiting, Robot: -1}
		if i%4 > 0 {
			task.State, task.Robot = []int{0, api.Done, api.Taken, api.Carried}[i%4], len(s.Robots)
			mode := []int{0, api.Idle, api.Fetching, api.Carrying}[i%4]
			s.Robots = append(s.Robots, api.Robot{Cell: len(s.Robots), Mode: mode, Battery: 1})
			if mode != api.Idle {
				s.Robots[len(s.Robots)-1].Task = task.Id
			}
		}
		s.Tasks = append(s.Tasks, task)
	}
	return s
}

func TestOrderOfManyTasks(t *testing.T) {
	g := api.Grid{W: most, H: most, Cells: strings.Repeat(".", most*most)}
	for n, e := range map[int]api.Errno{0: api.OK, 1: api.OK, 998: api.OK, 999: api.OK, 1000: api.ErrMany} {
		s := tasks(n)
		if !state.Right(g, s) {
			t.Fatalf("the state with %d tasks is not valid", n)
		}
		want := s
		if e == api.OK {
			want = with(s, func(s *api.State) {
				s.Tasks = append(s.Tasks, api.Task{Id: 1001, From: most*most - 1, To: 0, State: api.Waiting, Robot: -1})
			})
		}
		expect(t, "many tasks", g, s, api.Input{Kind: api.Order, A: 1001, B: most*most - 1, C: 0}, want, e)
		if n > 0 {
			expect(t, "the first Id", g, s, api.Input{Kind: api.Order, A: 1, B: 0, C: 1}, s, api.ErrTwice)
			expect(t, "the last Id", g, s, api.Input{Kind: api.Order, A: n, B: 0, C: 1}, s, api.ErrTwice)
		}
	}
}

// TestOrderTellsItsFirstError has several errors at once: each of ErrArg, ErrName, ErrTwice and ErrMany with each that
// comes after it.
func TestOrderTellsItsFirstError(t *testing.T) {
	g := parse(t, strings.Repeat("............\n", 100)+"...........#\n")
	const wall = 100*12 + 11
	full, less := tasks(1000), tasks(999)
	for _, c := range []struct {
		name string
		s    api.State
		x    api.Input
		e    api.Errno
	}{
		{"Id 0, a wall", less, api.Input{A: 0, B: wall, C: 1}, api.ErrArg},
		{"Id 0, to no cell", less, api.Input{A: 0, B: 1, C: -1}, api.ErrArg},
		{"Id 0, as many tasks as can be", full, api.Input{A: 0, B: 0, C: 1}, api.ErrArg},
		{"Id too great, a wall, as many tasks as can be", full, api.Input{A: greatID + 1, B: 1, C: wall}, api.ErrArg},
		{"from and to one wall", less, api.Input{A: 2000, B: wall, C: wall}, api.ErrArg},
		{"from and to the same that is no cell", less, api.Input{A: 2000, B: -1, C: -1}, api.ErrArg},
		{"from and to one cell, an Id that there is", less, api.Input{A: 3, B: 1, C: 1}, api.ErrArg},
		{"from and to one cell, as many tasks as can be", full, api.Input{A: 2000, B: 1, C: 1}, api.ErrArg},
		{"all at once", full, api.Input{A: 3, B: wall, C: wall}, api.ErrArg},
		{"a wall, an Id that there is", less, api.Input{A: 3, B: wall, C: 1}, api.ErrName},
		{"to a wall, an Id that there is", less, api.Input{A: 3, B: 1, C: wall}, api.ErrName},
		{"no cell, as many tasks as can be", full, api.Input{A: 2000, B: 1, C: math.MaxInt}, api.ErrName},
		{"a wall, an Id that there is, as many tasks as can be", full, api.Input{A: 3, B: wall, C: 1}, api.ErrName},
		{"an Id that there is, as many tasks as can be", full, api.Input{A: 3, B: 0, C: 1}, api.ErrTwice},
		{"as many tasks as can be", full, api.Input{A: 2000, B: 0, C: 1}, api.ErrMany},
	} {
		c.x.Kind = api.Order
		if !state.Right(g, c.s) {
			t.Fatal(c.name, "is not valid")
		}
		expect(t, c.name, g, c.s, c.x, c.s, c.e)
	}
}

func TestRobotsThatDoNotExist(t *testing.T) {
	for _, kind := range []int{api.Fault, api.Repair, api.Stall} {
		for _, robot := range append([]int{6, 7, greatID}, absent...) {
			expectError(t, "no robot", api.Input{Kind: kind, A: robot, B: 1}, api.ErrName)
		}
		expect(t, "no robots", parse(t, baseText), api.State{}, api.Input{Kind: kind, B: 1}, api.State{}, api.ErrName)
	}
	// The robot comes ahead of the number of ticks.
	for _, robot := range []int{-1, 6} {
		for _, ticks := range []int{0, -1, 1001} {
			expectError(t, "no robot, no number of ticks", api.Input{Kind: api.Stall, A: robot, B: ticks}, api.ErrName)
		}
	}
}

func TestFault(t *testing.T) {
	expectChange(t, "a fetching one", api.Input{Kind: api.Fault, A: fetching}, func(s *api.State) {
		s.Robots[fetching].Mode, s.Robots[fetching].Task = api.Faulted, 0
		s.Tasks[1].State, s.Tasks[1].Robot = api.Waiting, -1
	})
	for _, robot := range []int{carrying, charging, idle} {
		expectChange(t, "another one", api.Input{Kind: api.Fault, A: robot}, func(s *api.State) { s.Robots[robot].Mode = api.Faulted })
	}
	expectError(t, "a faulted one with a task", api.Input{Kind: api.Fault, A: faultedWithTask}, api.ErrMode)
	expectError(t, "a faulted one without a task", api.Input{Kind: api.Fault, A: faulted}, api.ErrMode)
	// Numbers of which the kind says nothing are of no account.
	expectChange(t, "with other numbers", api.Input{Kind: api.Fault, A: idle, B: -1, C: 2}, func(s *api.State) { s.Robots[idle].Mode = api.Faulted })
}

func TestRepair(t *testing.T) {
	expectChange(t, "one with a task", api.Input{Kind: api.Repair, A: faultedWithTask}, func(s *api.State) { s.Robots[faultedWithTask].Mode = api.Carrying })
	expectChange(t, "one without a task", api.Input{Kind: api.Repair, A: faulted}, func(s *api.State) { s.Robots[faulted].Mode = api.Idle })
	for _, robot := range []int{fetching, carrying, charging, idle} {
		expectError(t, "one that is not faulted", api.Input{Kind: api.Repair, A: robot}, api.ErrMode)
	}
	expectChange(t, "with other numbers", api.Input{Kind: api.Repair, A: faulted, B: -1, C: 2}, func(s *api.State) { s.Robots[faulted].Mode = api.Idle })
}

func TestStall(t *testing.T) {
	for robot := range base().Robots {
		for _, ticks := range []int{1, 2, 999, 1000} {
			expectChange(t, "stall", api.Input{Kind: api.Stall, A: robot, B: ticks}, func(s *api.State) { s.Robots[robot].Hold = ticks })
		}
		for _, ticks := range append([]int{0, -1000, 1001, 1<<32 + 1}, absent...) {
			expectError(t, "no number of ticks", api.Input{Kind: api.Stall, A: robot, B: ticks}, api.ErrArg)
		}
	}
	expectChange(t, "with another number", api.Input{Kind: api.Stall, A: 0, B: 3, C: -7}, func(s *api.State) { s.Robots[0].Hold = 3 })
}

func TestCellsThatDoNotExistAndWalls(t *testing.T) {
	for _, kind := range []int{api.Block, api.Clear} {
		for _, cell := range append([]int{2, 9, 12, 13, greatID}, absent...) {
			expectError(t, "no cell", api.Input{Kind: kind, A: cell}, api.ErrName)
		}
		expect(t, "a grid of a wall", parse(t, "#\n"), api.State{}, api.Input{Kind: kind}, api.State{}, api.ErrName)
	}
}

func TestBlock(t *testing.T) {
	for cell, want := range map[int][]int{
		0: {0, 3, 5, 8, 10}, 1: {1, 3, 5, 8, 10}, 4: {3, 4, 5, 8, 10}, 6: {3, 5, 6, 8, 10}, 7: {3, 5, 7, 8, 10},
		11: {3, 5, 8, 10, 11},
	} {
		expectChange(t, "a cell", api.Input{Kind: api.Block, A: cell}, func(s *api.State) { s.Blocked = want })
	}
	for _, cell := range base().Blocked {
		expectError(t, "a blocked cell", api.Input{Kind: api.Block, A: cell}, api.ErrTwice)
	}
	expectChange(t, "with other numbers", api.Input{Kind: api.Block, A: 4, B: -1, C: 2}, func(s *api.State) { s.Blocked = []int{3, 4, 5, 8, 10} })
	g, s := parse(t, baseText), base()
	s.Blocked = nil
	expect(t, "no cells blocked", g, s, api.Input{Kind: api.Block, A: 7}, with(s, func(s *api.State) { s.Blocked = []int{7} }), api.OK)
	s.Blocked = []int{0, 1, 3, 4, 5, 6, 7, 8, 10, 11}
	for _, cell := range s.Blocked {
		expect(t, "all cells blocked", g, s, api.Input{Kind: api.Block, A: cell}, s, api.ErrTwice)
	}
}

func TestClear(t *testing.T) {
	for cell, want := range map[int][]int{3: {5, 8, 10}, 5: {3, 8, 10}, 8: {3, 5, 10}, 10: {3, 5, 8}} {
		expectChange(t, "a blocked cell", api.Input{Kind: api.Clear, A: cell}, func(s *api.State) { s.Blocked = want })
	}
	for _, cell := range []int{0, 1, 4, 6, 7, 11} {
		expectError(t, "a cell that is not blocked", api.Input{Kind: api.Clear, A: cell}, api.ErrMode)
	}
	expectChange(t, "with other numbers", api.Input{Kind: api.Clear, A: 3, B: -1, C: 2}, func(s *api.State) { s.Blocked = []int{5, 8, 10} })
	g, s := parse(t, baseText), base()
	s.Blocked = []int{7}
	expect(t, "the only blocked cell", g, s, api.Input{Kind: api.Clear, A: 7}, with(s, func(s *api.State) { s.Blocked = nil }), api.OK)
	expect(t, "one below the only blocked cell", g, s, api.Input{Kind: api.Clear, A: 6}, s, api.ErrMode)
	expect(t, "one above the only blocked cell", g, s, api.Input{Kind: api.Clear, A: 8}, s, api.ErrMode)
	s.Blocked = nil
	for cell := range 12 {
		if floor(g, cell) {
			expect(t, "no cells blocked", g, s, api.Input{Kind: api.Clear, A: cell}, s, api.ErrMode)
		}
	}
}

func TestAll(t *testing.T) {
	g := parse(t, baseText)
	for _, l := range [][]api.Input{nil, {}} {
		s, codes := input.All(g, base(), l)
		if !same(s, base()) || len(codes) != 0 {
			t.Errorf("All of no input = %v, %d", s, codes)
		}
	}
	s, codes := input.All(g, base(), []api.Input{
		{Kind: api.Order, A: 7, B: 0, C: 1},
		{Kind: api.Order, A: 7, B: 1, C: 0},
		{Kind: api.Fault, A: fetching},
		{Kind: api.Fault, A: fetching},
		{},
		{Kind: api.Repair, A: fetching},
		{Kind: api.Fault, A: carrying},
		{Kind: api.Repair, A: carrying},
		{Kind: api.Repair, A: carrying},
		{Kind: api.Stall, A: idle, B: 1001},
		{Kind: api.Stall, A: idle, B: 3},
		{Kind: api.Stall, A: idle, B: 2},
		{Kind: api.Block, A: 4},
		{Kind: api.Block, A: 4},
		{Kind: api.Clear, A: 3},
		{Kind: api.Clear, A: 3},
		{Kind: api.Block, A: 3},
		{Kind: api.Clear, A: 4},
		{Kind: api.Block, A: 0},
		{Kind: api.Order, A: 8, B: 0, C: 2},
		{Kind: api.Order, A: 8, B: 0, C: 3},
	})
	want := with(base(), func(s *api.State) {
		s.Robots[fetching].Mode, s.Robots[fetching].Task = api.Idle, 0
		s.Robots[idle].Hold = 2
		s.Tasks[1].State, s.Tasks[1].Robot = api.Waiting, -1
		s.Tasks = append(s.Tasks, api.Task{Id: 7, From: 0, To: 1, State: api.Waiting, Robot: -1},
			api.Task{Id: 8, From: 0, To: 3, State: api.Waiting, Robot: -1})
		s.Blocked = []int{0, 3, 5, 8, 10}
	})
	errors := []api.Errno{api.OK, api.ErrTwice, api.OK, api.ErrMode, api.ErrForm, api.OK, api.OK, api.OK, api.ErrMode, api.ErrArg,
		api.OK, api.OK, api.OK, api.ErrTwice, api.OK, api.ErrMode, api.OK, api.OK, api.OK, api.ErrName, api.OK}
	if !same(s, want) || !slices.Equal(codes, errors) {
		t.Errorf("All = %v, %d, want %v, %d", s, codes, want, errors)
	}
	wrong := []api.Input{{Kind: -1}, {Kind: api.Fault, A: 6}, {Kind: api.Block, A: 2}, {Kind: api.Clear, A: 0}}
	s, codes = input.All(g, base(), wrong)
	if !same(s, base()) || !slices.Equal(codes, []api.Errno{api.ErrForm, api.ErrName, api.ErrName, api.ErrMode}) {
		t.Errorf("All of errors = %v, %d", s, codes)
	}
}

func TestAllOfOrdersUpToTheMost(t *testing.T) {
	g := parse(t, baseText)
	var l []api.Input
	for i := range 1100 {
		l = append(l, api.Input{Kind: api.Order, A: i + 1, B: 0, C: 1})
	}
	s, codes := input.All(g, base(), l)
	if len(s.Tasks) != 1000 || len(codes) != 1100 || !state.Right(g, s) {
		t.Fatal(len(s.Tasks), "tasks,", len(codes), "codes")
	}
	// The base state has five tasks, with Ids from 2 to 9, so the last of 1000 tasks has the Id 1000.
	for i, e := range codes {
		want := api.OK
		if i >= 1000 {
			want = api.ErrMany
		} else if i+1 == 2 || i+1 == 3 || i+1 == 5 || i+1 == 6 || i+1 == 9 {
			want = api.ErrTwice
		}
		if e != want {
			t.Errorf("order of %d: %d, want %d", i+1, e, want)
		}
	}
}

// judge is the test's own judgment of an input, by the lines of the chapter: the error, and the state after it.
func judge(g api.Grid, s api.State, x api.Input) (api.State, api.Errno) {
	u := clone(s)
	robot := x.A >= 0 && x.A < len(s.Robots)
	blocked := slices.Contains(s.Blocked, x.A)
	ids := map[int]int{}
	for i, task := range s.Tasks {
		ids[task.Id] = i
	}
	_, twice := ids[x.A]
	e := api.OK
	is := func(kind int, wrong bool, error api.Errno) {
		if x.Kind == kind && wrong && e == api.OK {
			e = error
		}
	}
	is(api.Order, x.A < 1 || x.A > greatID || x.B == x.C, api.ErrArg)
	is(api.Order, !floor(g, x.B) || !floor(g, x.C), api.ErrName)
	is(api.Order, twice, api.ErrTwice)
	is(api.Order, len(s.Tasks) == 1000, api.ErrMany)
	is(api.Fault, !robot, api.ErrName)
	is(api.Fault, robot && s.Robots[x.A].Mode == api.Faulted, api.ErrMode)
	is(api.Repair, !robot, api.ErrName)
	is(api.Repair, robot && s.Robots[x.A].Mode != api.Faulted, api.ErrMode)
	is(api.Stall, !robot, api.ErrName)
	is(api.Stall, x.B < 1 || x.B > 1000, api.ErrArg)
	is(api.Block, !floor(g, x.A), api.ErrName)
	is(api.Block, blocked, api.ErrTwice)
	is(api.Clear, !floor(g, x.A), api.ErrName)
	is(api.Clear, !blocked, api.ErrMode)
	if x.Kind < 1 || x.Kind > 6 {
		e = api.ErrForm
	}
	if e != api.OK {
		return u, e
	}
	switch x.Kind {
	case api.Order:
		u.Tasks = append(u.Tasks, api.Task{Id: x.A, From: x.B, To: x.C, State: api.Waiting, Robot: -1})
	case api.Fault:
		if s.Robots[x.A].Mode == api.Fetching {
			task := &u.Tasks[ids[s.Robots[x.A].Task]]
			task.State, task.Robot = api.Waiting, -1
			u.Robots[x.A].Task = 0
		}
		u.Robots[x.A].Mode = api.Faulted
	case api.Repair:
		u.Robots[x.A].Mode = api.Idle
		if s.Robots[x.A].Task != 0 {
			u.Robots[x.A].Mode = api.Carrying
		}
	case api.Stall:
		u.Robots[x.A].Hold = x.B
	case api.Block:
		u.Blocked = append(u.Blocked, x.A)
		slices.Sort(u.Blocked)
	case api.Clear:
		u.Blocked = slices.DeleteFunc(u.Blocked, func(cell int) bool { return cell == x.A })
	}
	return u, api.OK
}

// expectTheorem reports what P6.3 does not let a state become.
func expectTheorem(t *testing.T, g api.Grid, s, u api.State) {
	t.Helper()
	if !state.Right(g, u) || u.Tick != s.Tick || len(u.Robots) != len(s.Robots) || len(u.Tasks) < len(s.Tasks) {
		t.Fatalf("%v %v became %v", g, s, u)
	}
	for i, r := range u.Robots {
		if r.Cell != s.Robots[i].Cell || r.Battery != s.Robots[i].Battery {
			t.Fatalf("robot %d: %v became %v", i, s.Robots[i], r)
		}
	}
	for i, task := range s.Tasks {
		if task.State == api.Done && u.Tasks[i] != task {
			t.Fatalf("a done task: %v became %v", task, u.Tasks[i])
		}
	}
}

// chosenGrid returns a valid grid with letters among some, as r chooses.
func chosenGrid(r *rand.Rand, w, h int, among string) api.Grid {
	b := make([]byte, w*h)
	for i := range b {
		b[i] = among[r.Intn(len(among))]
	}
	return api.Grid{W: w, H: h, Cells: string(b)}
}

// floors returns the cells of a grid that are not walls, in an order that r chooses.
func floors(r *rand.Rand, g api.Grid) []int {
	var l []int
	for _, cell := range r.Perm(len(g.Cells)) {
		if floor(g, cell) {
			l = append(l, cell)
		}
	}
	return l
}

// chosenState returns a valid state with parts of all kinds, as r chooses.
func chosenState(r *rand.Rand, g api.Grid) api.State {
	s := api.State{Tick: r.Intn(1 << 31)}
	cells := floors(r, g)
	for _, cell := range cells[:r.Intn(len(cells)+1)] {
		s.Robots = append(s.Robots, api.Robot{Cell: cell, Mode: r.Intn(5), Battery: r.Intn(1001), Hold: max(0, r.Intn(2000)-999)})
	}
	if len(cells) > 1 {
		ids := r.Perm(3*len(s.Robots) + 9)
		add := func(of, robot int) int {
			ends := r.Perm(len(cells))
			s.Tasks = append(s.Tasks, api.Task{Id: ids[0] + 1, From: cells[ends[0]], To: cells[ends[1]], State: of, Robot: robot})
			ids = ids[1:]
			return s.Tasks[len(s.Tasks)-1].Id
		}
		for i := range s.Robots {
			if mode := s.Robots[i].Mode; mode == api.Fetching {
				s.Robots[i].Task = add(api.Taken, i)
			} else if mode == api.Carrying || mode == api.Faulted && r.Intn(2) == 0 {
				s.Robots[i].Task = add(api.Carried, i)
			}
			if r.Intn(2) == 0 {
				add(api.Done, i)
			}
		}
		for range r.Intn(4) {
			add(api.Waiting, -1)
		}
		r.Shuffle(len(s.Tasks), func(i, j int) { s.Tasks[i], s.Tasks[j] = s.Tasks[j], s.Tasks[i] })
	} else {
		for i := range s.Robots {
			s.Robots[i].Mode = api.Idle
		}
	}
	s.Blocked = floors(r, g)[:r.Intn(len(cells)+1)]
	slices.Sort(s.Blocked)
	return s
}

// chosenInput returns an input of any kind, mostly with numbers that there are, as r chooses.
func chosenInput(r *rand.Rand, g api.Grid, s api.State) api.Input {
	number := func() int {
		switch r.Intn(12) {
		case 0:
			return absent[r.Intn(len(absent))]
		case 1:
			return []int{999, 1000, 1001, greatID, greatID + 1}[r.Intn(5)]
		case 2, 3, 4:
			return r.Intn(len(s.Robots)+2) - 1
		}
		return r.Intn(len(g.Cells)+2) - 1
	}
	return api.Input{Kind: r.Intn(8), A: number(), B: number(), C: number()}
}

// samples calls f with valid states of grids of many sides, the same ones each time.
func samples(f func(r *rand.Rand, g api.Grid, s api.State)) {
	r := rand.New(rand.NewSource(1))
	for _, among := range []string{"...S", "....C#", letters + "....", "..C><^v"} {
		for range 150 {
			g := chosenGrid(r, 1+r.Intn(5), 1+r.Intn(5), among)
			f(r, g, chosenState(r, g))
		}
	}
}

func TestApplyToValidStates(t *testing.T) {
	type outcome struct {
		kind int
		e    api.Errno
	}
	found := map[outcome]int{}
	samples(func(r *rand.Rand, g api.Grid, s api.State) {
		if !state.Right(g, s) {
			t.Fatalf("not valid: %v %v", g, s)
		}
		for range 60 {
			x := chosenInput(r, g, s)
			want, e := judge(g, s, x)
			expect(t, "a valid state", g, s, x, want, e)
			u, _ := input.Apply(g, s, x)
			expectTheorem(t, g, s, u)
			if e != api.OK && !same(u, s) {
				t.Fatalf("%v with error %d changed the state", x, e)
			}
			if t.Failed() {
				t.Fatalf("%v %v", g, s)
			}
			found[outcome{x.Kind, e}]++
		}
	})
	for kind, errors := range [][]api.Errno{
		{api.ErrForm}, {api.OK, api.ErrArg, api.ErrName, api.ErrTwice}, {api.OK, api.ErrName, api.ErrMode}, {api.OK, api.ErrName, api.ErrMode},
		{api.OK, api.ErrName, api.ErrArg}, {api.OK, api.ErrName, api.ErrTwice}, {api.OK, api.ErrName, api.ErrMode}, {api.ErrForm},
	} {
		for _, e := range errors {
			if found[outcome{kind, e}] == 0 {
				t.Errorf("kind %d with error %d did not come up", kind, e)
			}
		}
	}
}

func TestAllIsApplyOneAfterTheOther(t *testing.T) {
	samples(func(r *rand.Rand, g api.Grid, s api.State) {
		l := make([]api.Input, r.Intn(60))
		was := clone(s)
		one, want := s, s
		var codes []api.Errno
		for i := range l {
			l[i] = chosenInput(r, g, one)
			var e, f api.Errno
			one, e = input.Apply(g, one, l[i])
			want, f = judge(g, want, l[i])
			if e != f {
				t.Fatalf("Apply of %v returns %d, want %d", l[i], e, f)
			}
			codes = append(codes, f)
		}
		inputs := slices.Clone(l)
		all, got := input.All(g, s, l)
		if !same(all, want) || !same(one, want) || !slices.Equal(got, codes) {
			t.Fatalf("All of %v = %v, %d, want %v, %d", l, all, got, want, codes)
		}
		expectTheorem(t, g, s, all)
		if !same(s, was) || !slices.Equal(l, inputs) {
			t.Fatal("All changed its arguments")
		}
	})
}

// inputs are one input of each kind that changes the base state, and one of each that does not.
var inputs = []api.Input{
	{Kind: api.Order, A: 7, B: 0, C: 1}, {Kind: api.Fault, A: fetching}, {Kind: api.Repair, A: faulted}, {Kind: api.Stall, A: 0, B: 9},
	{Kind: api.Block, A: 0}, {Kind: api.Block, A: 11}, {Kind: api.Clear, A: 3}, {Kind: api.Clear, A: 10},
	{}, {Kind: api.Order}, {Kind: api.Fault, A: -1}, {Kind: api.Repair, A: idle}, {Kind: api.Stall}, {Kind: api.Block, A: 3}, {Kind: api.Clear},
}

// TestResultsShareNothing changes all of a result, and then all of an argument, of which the slices have room for more.
func TestResultsShareNothing(t *testing.T) {
	g := parse(t, baseText)
	roomy := func() (whole, part api.State) {
		whole = with(base(), func(s *api.State) {
			s.Robots = append(s.Robots, api.Robot{Cell: 99}, api.Robot{Cell: 98})
			s.Tasks = append(s.Tasks, api.Task{Id: 99}, api.Task{Id: 98})
			s.Blocked = append(s.Blocked, 99, 98)
		})
		return whole, api.State{Tick: 77, Robots: whole.Robots[:6], Tasks: whole.Tasks[:5], Blocked: whole.Blocked[:4]}
	}
	spoil := func(s api.State) {
		clear(s.Robots[:cap(s.Robots)])
		clear(s.Tasks[:cap(s.Tasks)])
		clear(s.Blocked[:cap(s.Blocked)])
	}
	calls := map[string]func(s api.State, x api.Input) api.State{
		"Apply": func(s api.State, x api.Input) api.State { u, _ := input.Apply(g, s, x); return u },
		"All":   func(s api.State, x api.Input) api.State { u, _ := input.All(g, s, []api.Input{x}); return u },
		"All of none": func(s api.State, x api.Input) api.State {
			u, _ := input.All(g, s, nil)
			return u
		},
	}
	for name, call := range calls {
		for _, x := range inputs {
			whole, part := roomy()
			was := clone(whole)
			first := call(part, x)
			second, kept := call(part, x), clone(first)
			if !same(whole, was) {
				t.Errorf("%s: %v changed its argument, or what lies behind it", name, x)
			}
			spoil(first)
			if !same(whole, was) || !same(second, kept) {
				t.Errorf("%s: the result of %v shares memory with its argument or with another result", name, x)
			}
			spoil(whole)
			if !same(second, kept) {
				t.Errorf("%s: the result of %v shares memory with its argument", name, x)
			}
		}
	}
}

func TestAnswersDependOnArgumentsAlone(t *testing.T) {
	g := parse(t, baseText)
	l := append(slices.Clone(inputs), inputs...)
	first, errors := input.All(g, base(), l)
	for range 20 {
		u, codes := input.All(g, base(), l)
		if !same(u, first) || !slices.Equal(codes, errors) {
			t.Fatal("All differs from call to call")
		}
	}
	errors[0] = 99
	if _, codes := input.All(g, base(), l); codes[0] != api.OK {
		t.Error("All returns codes that are not the caller's own")
	}
}

func TestEmptySlicesAreLikeNil(t *testing.T) {
	g := parse(t, "..\n..\n")
	empty := api.State{Robots: []api.Robot{}, Tasks: []api.Task{}, Blocked: []int{}}
	for _, x := range append([]api.Input{{Kind: api.Order, A: 1, B: 3, C: 0}, {Kind: api.Block, A: 3}}, inputs...) {
		u, e := input.Apply(g, empty, x)
		v, f := input.Apply(g, api.State{}, x)
		if e != f || !same(u, v) {
			t.Errorf("%v: %v, %d and %v, %d", x, u, e, v, f)
		}
	}
}

func TestNoCallPanicsOnWrongArguments(t *testing.T) {
	numbers := append([]int{0, 1, 2, 3, 6, 9}, absent...)
	for _, cells := range []string{"", ".", "....", "..CC\n", "C\xff\xae.", "é.C"} {
		for _, side := range []int{math.MinInt, -1, 0, 1, 4, math.MaxInt} {
			g := api.Grid{W: side, H: side, Cells: cells}
			for _, n := range numbers {
				s := base()
				for i := range s.Robots {
					s.Robots[i].Task, s.Robots[i].Mode = n, []int{n, 0, 1, 2, 3, 4}[i]
				}
				for i := range s.Tasks {
					s.Tasks[i] = api.Task{Id: n + i%2, From: n, To: n, State: n, Robot: n}
				}
				s.Blocked = []int{n, 3, n, 0}
				for kind := range 8 {
					for _, a := range numbers {
						l := []api.Input{{Kind: kind, A: a, B: n, C: 1}, {Kind: n, A: a, B: 1, C: n}, {Kind: kind, A: n, B: a, C: 0}}
						for _, x := range l {
							input.Apply(g, s, x)
							input.Apply(g, api.State{Robots: s.Robots}, x)
						}
						input.All(g, s, l)
					}
				}
			}
		}
	}
}

func TestCallsAtTheSameTime(t *testing.T) {
	g, s := parse(t, baseText), base()
	want, codes := input.All(g, s, inputs)
	var all sync.WaitGroup
	for range 8 {
		all.Go(func() {
			for range 200 {
				if u, e := input.All(g, s, inputs); !same(u, want) || !slices.Equal(e, codes) {
					t.Error("All differs")
				}
				if u, e := input.Apply(g, s, inputs[0]); e != api.OK || len(u.Tasks) != 6 {
					t.Error("Apply differs")
				}
			}
		})
	}
	all.Wait()
}

func TestImports(t *testing.T) {
	f, err := parser.ParseFile(token.NewFileSet(), "input.go", nil, parser.ImportsOnly)
	if err != nil {
		t.Fatal(err)
	}
	for _, i := range f.Imports {
		if !slices.Contains([]string{`"slices"`, `"tugger/api"`, `"tugger/grid"`, `"tugger/state"`}, i.Path.Value) {
			t.Error("input imports", i.Path.Value)
		}
	}
}

func BenchmarkAllOfManyInputsToAGreatState(b *testing.B) {
	g := api.Grid{W: most, H: most, Cells: strings.Repeat(".", most*most)}
	s := tasks(1000)
	for cell := range most * most / 2 {
		s.Blocked = append(s.Blocked, 2*cell)
	}
	var l []api.Input
	for i := range 1000 {
		l = append(l, api.Input{Kind: api.Stall, A: i % 750, B: 1}, api.Input{Kind: api.Block, A: 2*i + 1}, api.Input{Kind: api.Clear, A: 2 * i}, api.Input{Kind: api.Order, A: 2000, B: 0, C: 1})
	}
	for b.Loop() {
		input.All(g, s, l)
	}
}
