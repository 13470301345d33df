package plan_test

import (
	"fmt"
	"go/parser"
	"go/token"
	"math"
	"math/rand"
	"slices"
	"strings"
	"sync"
	"testing"

	"tugger/api"
	"tugger/dist"
	"tugger/grid"
	"tugger/plan"
	"tugger/state"
)

const (
	most   = api.MostSide
	steps  = api.Horizon
	astray = 1000000
)

// absent are numbers that are no cells of any grid.
var absent = []int{math.MinInt, math.MinInt + 1, -most, -2, -1, most * most, most*most + 1, 1 << 32, math.MaxInt - 1, math.MaxInt}

// parse returns the grid of rows, which must be one.
func parse(t testing.TB, rows ...string) api.Grid {
	t.Helper()
	g, e := grid.Parse(strings.Join(rows, "\n") + "\n")
	if e != api.OK {
		t.Fatalf("Parse(%q): %d", rows, e)
	}
	return g
}

// stay returns the path that stays in a cell.
func stay(cell int) []int { return slices.Repeat([]int{cell}, steps+1) }

// brief says what a value is in a few words.
func brief(v any) string {
	s := fmt.Sprint(v)
	if len(s) > 200 {
		return s[:200] + ".."
	}
	return s
}

// expect reports what Path does other than to return wanted cells; none are wanted where there is no path.
func expect(t *testing.T, name string, g api.Grid, from, to int, blocked []int, others [][]int, want []int) {
	t.Helper()
	l, is := plan.Path(g, from, to, blocked, others)
	if is != (want != nil) || !slices.Equal(l, want) {
		t.Errorf("%s: Path(%s, %d, %d, %s, %s) = %v, %t, want %v", name, brief(g), from, to, brief(blocked), brief(others), l, is, want)
	}
}

// permitted says whether all steps of a path are, as the chapter words it.
func permitted(g api.Grid, path, blocked []int, others [][]int) bool {
	for i := range len(path) - 1 {
		from, to := path[i], path[i+1]
		leads := false
		for way := api.Stay; way <= api.West; way++ {
			cell, is := grid.Goes(g, from, way)
			leads = leads || is && cell == to
		}
		if !leads || !lastIsPermitted(path[:i+2], blocked, others) {
			return false
		}
	}
	return true
}

// judge is the test's own Path: it goes through all paths in the order of their directions.
func judge(g api.Grid, from, to int, blocked []int, others [][]int) ([]int, bool) {
	if !grid.Floor(g, from) || !grid.Floor(g, to) {
		return nil, false
	}
	costs := map[int]int{}
	var best []int
	least := math.MaxInt
	path := []int{from}
	var extend func(cost int)
	extend = func(cost int) {
		if len(path) == steps+1 {
			if cost < least {
				best, least = slices.Clone(path), cost
			}
			return
		}
		for way := api.Stay; way <= api.West; way++ {
			cell, is := grid.Goes(g, path[len(path)-1], way)
			if !is {
				continue
			}
			path = append(path, cell)
			if lastIsPermitted(path, blocked, others) {
				if _, known := costs[cell]; !known {
					costs[cell] = dist.Far(g, cell, to, blocked)
					if costs[cell] == -1 {
						costs[cell] = astray
					}
				}
				extend(cost + costs[cell])
			}
			path = path[:len(path)-1]
		}
	}
	extend(0)
	return best, best != nil
}

// lastIsPermitted says whether the last step of a path, which a direction leads, is permitted.
func lastIsPermitted(path, blocked []int, others [][]int) bool {
	i := len(path) - 2
	from, to := path[i], path[i+1]
	if from != to && slices.Contains(blocked, to) {
		return false
	}
	for _, other := range others {
		if i+1 < len(other) && (other[i+1] == to || other[i] == to && other[i+1] == from) {
			return false
		}
	}
	return true
}

// expectJudged reports a Path that differs from the judge's, has a step that is not permitted, or changes its
// arguments. It returns whether there is a path.
func expectJudged(t *testing.T, g api.Grid, from, to int, blocked []int, others [][]int) bool {
	t.Helper()
	wasBlocked, wasOthers := slices.Clone(blocked), cloned(others)
	l, is := plan.Path(g, from, to, blocked, others)
	if want, be := judge(g, from, to, blocked, others); is != be || !slices.Equal(l, want) {
		t.Fatalf("Path(%v, %d, %d, %v, %v) = %v, %t, want %v", g, from, to, blocked, others, l, is, want)
	}
	if !slices.Equal(blocked, wasBlocked) || !slices.EqualFunc(others, wasOthers, slices.Equal[[]int]) {
		t.Fatalf("Path(%v, %d, %d, %v, %v) changed its arguments", g, from, to, wasBlocked, wasOthers)
	}
	if is && (len(l) != steps+1 || l[0] != from || !permitted(g, l, blocked, others)) {
		t.Fatalf("Path(%v, %d, %d, %v, %v) = %v, which is not permitted", g, from, to, blocked, others, l)
	}
	return is
}

func cloned(lists [][]int) [][]int {
	var l [][]int
	for _, list := range lists {
		l = append(l, slices.Clone(list))
	}
	return l
}

func TestLimits(t *testing.T) {
	if steps != 6 {
		t.Fatalf("the wanted paths of these tests have 6 steps, not %d", steps)
	}
}

func TestGoals(t *testing.T) {
	row := parse(t, "..........")
	wall := parse(t, "..#..")
	one := parse(t, ".")
	for _, x := range []struct {
		name     string
		g        api.Grid
		from, to int
		want     []int
	}{
		{"the example", parse(t, "...."), 0, 2, []int{0, 1, 2, 2, 2, 2, 2}},
		{"the only cell", one, 0, 0, stay(0)},
		{"the cell in which it begins", row, 4, 4, stay(4)},
		{"the cell in which it begins, at the end", row, 9, 9, stay(9)},
		{"one step", row, 4, 5, []int{4, 5, 5, 5, 5, 5, 5}},
		{"one step back", row, 4, 3, []int{4, 3, 3, 3, 3, 3, 3}},
		{"nearer than the horizon", row, 1, 6, []int{1, 2, 3, 4, 5, 6, 6}},
		{"exactly as far as the horizon", row, 1, 7, []int{1, 2, 3, 4, 5, 6, 7}},
		{"exactly as far as the horizon, back", row, 7, 1, []int{7, 6, 5, 4, 3, 2, 1}},
		{"one step farther", row, 1, 8, []int{1, 2, 3, 4, 5, 6, 7}},
		{"farther", row, 0, 9, []int{0, 1, 2, 3, 4, 5, 6}},
		{"behind a wall", wall, 0, 3, stay(0)},
		{"behind a wall, from beside it", wall, 1, 3, stay(1)},
		{"behind a wall, back", wall, 4, 0, stay(4)},
		{"around a wall", parse(t, "...", ".#.", "..."), 3, 5, []int{3, 0, 1, 2, 5, 5, 5}},
		{"along one-way cells", parse(t, ">>>>"), 0, 3, []int{0, 1, 2, 3, 3, 3, 3}},
		{"against one-way cells", parse(t, ">>>>"), 3, 0, stay(3)},
		{"against one one-way cell", parse(t, "..>."), 3, 0, stay(3)},
		{"around in a ring", parse(t, ">v", "^<"), 1, 0, []int{1, 3, 2, 0, 0, 0, 0}},
		{"stations and chargers are cells like others", parse(t, "SC.S"), 0, 3, []int{0, 1, 2, 3, 3, 3, 3}},
	} {
		expect(t, x.name, x.g, x.from, x.to, nil, nil, x.want)
		expectJudged(t, x.g, x.from, x.to, nil, nil)
	}
}

// TestCellsThatAreNone has from and to that do not exist, or are walls.
func TestCellsThatAreNone(t *testing.T) {
	g := parse(t, "..#", "#..")
	none := append([]int{2, 3, 6, 7}, absent...)
	for _, cell := range none {
		for _, floor := range []int{0, 1, 4, 5} {
			expect(t, "from none", g, cell, floor, nil, nil, nil)
			expect(t, "to none", g, floor, cell, nil, nil, nil)
			expect(t, "from none, blocked", g, cell, floor, []int{cell, floor}, [][]int{stay(cell)}, nil)
			expect(t, "to none, blocked", g, floor, cell, []int{cell, floor}, [][]int{stay(floor)}, nil)
		}
		for _, other := range none {
			expect(t, "from none to none", g, cell, other, nil, nil, nil)
		}
	}
	largest := api.Grid{W: most, H: most, Cells: strings.Repeat(".", most*most)}
	for _, cell := range absent {
		expect(t, "from none", largest, cell, 0, nil, nil, nil)
		expect(t, "to none", largest, most*most-1, cell, nil, nil, nil)
	}
}

func TestBlockedCells(t *testing.T) {
	row := parse(t, ".....")
	block := parse(t, "...", "...")
	for _, x := range []struct {
		name     string
		g        api.Grid
		from, to int
		blocked  []int
		want     []int
	}{
		{"none", row, 0, 3, []int{}, []int{0, 1, 2, 3, 3, 3, 3}},
		{"on the way", row, 0, 3, []int{2}, stay(0)},
		{"beside it", row, 1, 3, []int{2}, stay(1)},
		{"on the way, with a way around", block, 0, 2, []int{1}, []int{0, 3, 4, 5, 2, 2, 2}},
		{"off the way", row, 1, 3, []int{0, 4}, []int{1, 2, 3, 3, 3, 3, 3}},
		{"the cell in which it begins", row, 0, 3, []int{0}, []int{0, 1, 2, 3, 3, 3, 3}},
		{"the cell in which it begins and stays", row, 2, 2, []int{2}, stay(2)},
		{"the goal", row, 0, 3, []int{3}, stay(0)},
		{"the goal, from beside it", row, 2, 3, []int{3}, stay(2)},
		{"the cell in which it begins, the goal behind a blocked cell", row, 0, 3, []int{0, 2}, stay(0)},
		{"outside the grid", row, 0, 3, []int{-1, 5, 77, math.MinInt, math.MaxInt}, []int{0, 1, 2, 3, 3, 3, 3}},
		{"the same one twice", row, 0, 3, []int{2, 2}, stay(0)},
		{"the same one twice, with a way around", block, 0, 2, []int{1, 4, 1}, stay(0)},
		{"in no order", block, 0, 2, []int{77, 1, -1}, []int{0, 3, 4, 5, 2, 2, 2}},
		{"all", row, 1, 3, []int{0, 1, 2, 3, 4}, stay(1)},
		{"all, at the goal", row, 3, 3, []int{0, 1, 2, 3, 4}, stay(3)},
		{"a wall", parse(t, "..#"), 0, 1, []int{2}, []int{0, 1, 1, 1, 1, 1, 1}},
	} {
		expect(t, x.name, x.g, x.from, x.to, x.blocked, nil, x.want)
		expectJudged(t, x.g, x.from, x.to, x.blocked, nil)
	}
}

// TestLeavingABlockedCell has a robot that has to leave the blocked cell in which it begins, and cannot come back.
func TestLeavingABlockedCell(t *testing.T) {
	g := parse(t, "...")
	expect(t, "leaves", g, 1, 1, []int{1}, [][]int{{9, 1}}, []int{1, 2, 2, 2, 2, 2, 2})
	expect(t, "may come back", g, 1, 1, nil, [][]int{{9, 1}}, []int{1, 2, 1, 1, 1, 1, 1})
	expect(t, "stays at first", g, 1, 1, []int{1}, [][]int{{9, 9, 9, 1}}, []int{1, 1, 1, 2, 2, 2, 2})
	expect(t, "cannot leave", g, 1, 1, []int{0, 1, 2}, [][]int{{9, 9, 9, 1}}, nil)
}

func TestOthers(t *testing.T) {
	row := parse(t, ".....")
	block := parse(t, "....", "....")
	for _, x := range []struct {
		name     string
		g        api.Grid
		from, to int
		others   [][]int
		want     []int
	}{
		{"none", row, 0, 3, [][]int{}, []int{0, 1, 2, 3, 3, 3, 3}},
		{"one that is empty", row, 0, 3, [][]int{{}, nil}, []int{0, 1, 2, 3, 3, 3, 3}},
		{"one far away", row, 0, 2, [][]int{stay(4)}, []int{0, 1, 2, 2, 2, 2, 2}},
		{"one that stays in the way", row, 0, 3, [][]int{stay(2)}, []int{0, 1, 1, 1, 1, 1, 1}},
		{"one that stays at the goal", row, 0, 3, [][]int{stay(3)}, []int{0, 1, 2, 2, 2, 2, 2}},
		{"one that stays in the way, with a way around", block, 0, 2, [][]int{stay(1)}, []int{0, 4, 5, 6, 2, 2, 2}},
		{"one that leaves the way in time", block, 0, 3, [][]int{{2, 6, 6, 6, 6, 6, 6}}, []int{0, 1, 2, 3, 3, 3, 3}},
		{"one that leaves the way as it is reached", block, 0, 3, [][]int{{2, 2, 6, 6, 6, 6, 6}}, []int{0, 1, 2, 3, 3, 3, 3}},
		{"one that leaves the way too late", row, 0, 3, [][]int{{2, 2, 2, 9, 9, 9, 9}}, []int{0, 1, 1, 2, 3, 3, 3}},
		{"one that goes ahead", row, 0, 4, [][]int{{1, 2, 3, 4, 9, 9, 9}}, []int{0, 1, 2, 3, 4, 4, 4}},
		{"one that enters the way", row, 0, 4, [][]int{{9, 9, 2, 9, 9, 9, 9}}, []int{0, 1, 1, 2, 3, 4, 4}},
		{"one that enters the way before", row, 0, 4, [][]int{{9, 2, 9, 9, 9, 9, 9}}, []int{0, 1, 2, 3, 4, 4, 4}},
		{"one that enters the way behind", row, 0, 4, [][]int{{9, 9, 9, 2, 9, 9, 9}}, []int{0, 1, 2, 3, 4, 4, 4}},
		{"one that comes towards it", row, 0, 4, [][]int{{4, 3, 2, 1, 0, 0, 0}}, nil},
		{"one that comes towards it and turns back", row, 0, 4, [][]int{{4, 3, 2, 3, 4, 4, 4}}, []int{0, 1, 1, 2, 3, 3, 3}},
		{"one that comes towards it, with a way around", block, 0, 3, [][]int{{3, 2, 1, 0, 0, 0, 0}}, []int{0, 1, 5, 1, 2, 3, 3}},
		{"one that would change places with it", row, 0, 4, [][]int{{1, 0, 9, 9, 9, 9, 9}}, nil},
		{"one that would change places with it, with a way around", block, 1, 3, [][]int{{2, 1, 1, 1, 1, 1, 1}}, []int{1, 5, 6, 2, 3, 3, 3}},
		{"one that would change places with it at the last step", row, 0, 4, [][]int{{9, 9, 9, 9, 4, 4, 3}}, []int{0, 1, 2, 3, 3, 3, 2}},
		{"one that would change places before it comes", row, 0, 4, [][]int{{2, 1, 9, 9, 9, 9, 9}}, []int{0, 0, 1, 2, 3, 4, 4}},
		{"one that goes where it goes, from elsewhere", row, 0, 4, [][]int{{2, 9, 1, 9, 9, 9, 9}}, []int{0, 1, 2, 3, 4, 4, 4}},
		{"one in its first cell at the index of that", row, 0, 3, [][]int{{0, 9, 9, 9, 9, 9, 9}}, []int{0, 1, 2, 3, 3, 3, 3}},
		{"one that begins in its first cell and goes ahead", row, 0, 3, [][]int{{0, 1, 2, 3, 4, 9, 9}}, []int{0, 0, 1, 2, 3, 3, 3}},
		{"one that stays in its first cell", row, 0, 3, [][]int{stay(0)}, []int{0, 1, 2, 3, 3, 3, 3}},
		{"two that begin in its first cell", row, 2, 2, [][]int{{2, 1}, {2, 3}}, stay(2)},
		{"one that comes to its first cell", row, 1, 1, [][]int{{9, 1}}, []int{1, 2, 1, 1, 1, 1, 1}},
		{"one that is shorter and stays in the way", row, 0, 3, [][]int{{2, 2, 2}}, []int{0, 1, 1, 2, 3, 3, 3}},
		{"one of one cell", row, 0, 3, [][]int{{1}}, []int{0, 1, 2, 3, 3, 3, 3}},
		{"one of two cells", row, 0, 3, [][]int{{1, 1}}, []int{0, 0, 1, 2, 3, 3, 3}},
		{"one that ends in its first cell", row, 0, 3, [][]int{{0}}, []int{0, 1, 2, 3, 3, 3, 3}},
		{"one as long", row, 0, 4, [][]int{{9, 9, 9, 9, 9, 9, 4}}, []int{0, 1, 2, 3, 4, 4, 3}},
		{"one that is longer", row, 0, 4, [][]int{{9, 9, 9, 9, 9, 9, 9, 4, 3, 2, 1, 0}}, []int{0, 1, 2, 3, 4, 4, 4}},
		{"one that is longer, and in the way before its end", row, 0, 4, [][]int{{9, 9, 9, 9, 9, 9, 4, 4, 4}}, []int{0, 1, 2, 3, 4, 4, 3}},
		{"one that would change places behind the end", row, 0, 4, [][]int{{9, 9, 9, 9, 9, 9, 9, 4}}, []int{0, 1, 2, 3, 4, 4, 4}},
		{"cells outside the grid", row, 0, 3, [][]int{stay(-1), stay(5), stay(math.MaxInt), stay(math.MinInt)}, []int{0, 1, 2, 3, 3, 3, 3}},
		{"two, each for a time", row, 0, 3, [][]int{{1, 1, 9}, {9, 9, 1}}, []int{0, 0, 0, 1, 2, 3, 3}},
		{"the same one twice", row, 0, 3, [][]int{stay(2), stay(2)}, []int{0, 1, 1, 1, 1, 1, 1}},
		{"two that leave no path", row, 0, 3, [][]int{{9, 0}, {9, 1}}, nil},
		{"two that come near in the end", row, 0, 0, [][]int{{9, 9, 9, 9, 9, 9, 0}, {9, 9, 9, 9, 9, 9, 1}}, []int{0, 0, 0, 0, 0, 1, 2}},
		{"many that leave no path in the end", row, 0, 0, [][]int{{9, 9, 9, 9, 9, 9, 0}, {9, 9, 9, 9, 9, 9, 1}, {9, 9, 9, 9, 9, 9, 2}, {9, 9, 9, 9, 9, 9, 3}, {9, 9, 9, 9, 9, 9, 4}}, nil},
		{"parts of two do not make an exchange", row, 0, 3, [][]int{{1, 9}, {9, 0}}, []int{0, 1, 2, 3, 3, 3, 3}},
	} {
		expect(t, x.name, x.g, x.from, x.to, nil, x.others, x.want)
		expectJudged(t, x.g, x.from, x.to, nil, x.others)
	}
}

// TestDeadEnds has others that close a way, so that what seems to be best at first leads to no path.
func TestDeadEnds(t *testing.T) {
	g := parse(t,
		"...",
		".#.",
		"...")
	// Whoever goes East at first cannot go on from there, nor stay, nor go back.
	others := [][]int{{9, 9, 1}, {9, 9, 2}, {9, 9, 0}}
	expect(t, "another way", g, 0, 2, nil, others, []int{0, 0, 3, 0, 1, 2, 2})
	expectJudged(t, g, 0, 2, nil, others)
	expect(t, "no way", g, 0, 2, []int{3}, others, nil)
	expectJudged(t, g, 0, 2, []int{3}, others)
}

// TestLeastDirections has several paths of the least cost.
func TestLeastDirections(t *testing.T) {
	g := parse(t,
		"...",
		"...",
		"...")
	for _, x := range []struct {
		name     string
		from, to int
		others   [][]int
		want     []int
	}{
		{"North before East", 6, 2, nil, []int{6, 3, 0, 1, 2, 2, 2}},
		{"North before West", 8, 0, nil, []int{8, 5, 2, 1, 0, 0, 0}},
		{"East before South", 0, 8, nil, []int{0, 1, 2, 5, 8, 8, 8}},
		{"South before West", 2, 6, nil, []int{2, 5, 8, 7, 6, 6, 6}},
		{"the second direction, after a first one", 6, 2, [][]int{{9, 3}}, []int{6, 7, 4, 1, 2, 2, 2}},
		{"the second direction, after no other one", 3, 2, [][]int{{9, 0}}, []int{3, 4, 1, 2, 2, 2, 2}},
		{"a later direction", 0, 8, [][]int{{9, 9, 2}}, []int{0, 1, 4, 5, 8, 8, 8}},
		{"waiting before a way around of the same cost", 3, 5, [][]int{{9, 4}}, []int{3, 3, 4, 5, 5, 5, 5}},
		{"away from the goal: North before all", 4, 4, [][]int{{9, 4}}, []int{4, 1, 4, 4, 4, 4, 4}},
		{"away from the goal: East", 4, 4, [][]int{{9, 4}, {9, 1}}, []int{4, 5, 4, 4, 4, 4, 4}},
		{"away from the goal: South", 4, 4, [][]int{{9, 4}, {9, 1}, {9, 5}}, []int{4, 7, 4, 4, 4, 4, 4}},
		{"away from the goal: West", 4, 4, [][]int{{9, 4}, {9, 1}, {9, 5}, {9, 7}}, []int{4, 3, 4, 4, 4, 4, 4}},
		{"away from the goal: nowhere", 4, 4, [][]int{{9, 4}, {9, 1}, {9, 5}, {9, 7}, {9, 3}}, nil},
		{"staying away before coming", 4, 4, [][]int{{9, 4, 4, 4, 4, 4, 4}}, []int{4, 1, 1, 1, 1, 1, 1}},
	} {
		expect(t, x.name, g, x.from, x.to, nil, x.others, x.want)
		expectJudged(t, g, x.from, x.to, nil, x.others)
	}
}

// TestDirectionsWithoutAWay has no way to the goal, so that all paths have the same cost.
func TestDirectionsWithoutAWay(t *testing.T) {
	g := parse(t,
		"...#.",
		"...##",
		"...#.")
	expect(t, "stays", g, 6, 4, nil, nil, stay(6))
	expect(t, "North", g, 6, 4, nil, [][]int{stay(6)}, []int{6, 1, 1, 1, 1, 1, 1})
	expect(t, "North and on", g, 6, 4, nil, [][]int{stay(6), {9, 9, 1}}, []int{6, 1, 2, 2, 2, 2, 2})
	expect(t, "East", g, 6, 4, nil, [][]int{{9, 6}, {9, 1}}, []int{6, 7, 7, 7, 7, 7, 7})
	expect(t, "South", g, 6, 14, nil, [][]int{{9, 6}, {9, 1}, {9, 7}}, []int{6, 11, 11, 11, 11, 11, 11})
	expect(t, "West", g, 6, 14, nil, [][]int{{9, 6}, {9, 1}, {9, 7}, {9, 11}}, []int{6, 5, 5, 5, 5, 5, 5})
	expect(t, "none", g, 6, 14, nil, [][]int{{9, 6}, {9, 1}, {9, 7}, {9, 11}, {9, 5}}, nil)
}

func TestOnlyOneDirectionLeads(t *testing.T) {
	closed := parse(t, ".#.", "#.#", ".#.")
	expect(t, "Stay alone", closed, 4, 0, nil, nil, stay(4))
	expect(t, "Stay alone, at the goal", closed, 4, 4, nil, nil, stay(4))
	expect(t, "Stay alone, blocked", closed, 4, 0, []int{4}, nil, stay(4))
	expect(t, "Stay alone, not permitted", closed, 4, 4, nil, [][]int{{9, 9, 9, 4}}, nil)
	wards := parse(t,
		"...",
		".>.",
		"...")
	expect(t, "East alone", wards, 4, 3, nil, nil, []int{4, 5, 2, 1, 0, 3, 3})
	expect(t, "East alone, blocked", wards, 4, 3, []int{5}, nil, stay(4))
	expect(t, "East alone, taken", wards, 4, 3, nil, [][]int{{9, 5}}, []int{4, 4, 5, 2, 1, 0, 3})
	expect(t, "East alone, taken for ever", wards, 4, 3, nil, [][]int{stay(5)}, stay(4))
	expect(t, "into a one-way cell", wards, 1, 7, nil, nil, []int{1, 2, 5, 8, 7, 7, 7})
	for way, letter := range map[int]string{api.North: "^", api.East: ">", api.South: "v", api.West: "<"} {
		g := parse(t, "...", "."+letter+".", "...")
		to := 4 + map[int]int{api.North: -3, api.East: 1, api.South: 3, api.West: -1}[way]
		want := slices.Concat([]int{4}, slices.Repeat([]int{to}, steps))
		expect(t, letter, g, 4, to, nil, nil, want)
	}
}

// TestCostOfBeingAstray has paths that must end in cells from which there is no way to the goal.
func TestCostOfBeingAstray(t *testing.T) {
	// From 0 one can only stay or fall into 3, which nobody can leave, or go on to 1.
	g := parse(t,
		"...",
		"<#.")
	expect(t, "astray at once", g, 0, 2, nil, [][]int{{9, 0}, {9, 1}}, []int{0, 3, 3, 3, 3, 3, 3})
	expect(t, "astray at last", g, 0, 0, []int{1}, [][]int{{9, 9, 9, 9, 9, 9, 0}}, []int{0, 0, 0, 0, 0, 0, 3})
	expect(t, "astray as late as can be", g, 0, 0, []int{1}, [][]int{{9, 9, 9, 0}}, []int{0, 0, 0, 3, 3, 3, 3})
	expect(t, "not astray if there is a way around", g, 0, 0, nil, [][]int{{9, 0, 0, 0, 0, 0, 0}}, []int{0, 1, 1, 1, 1, 1, 1})
	expect(t, "neither", g, 0, 0, []int{1}, [][]int{{9, 0}, {9, 3}}, nil)
}

// TestBeingAstrayCostsMoreThanAllOtherCells has a robot that must go far away at once, or be in a trap at last.
func TestBeingAstrayCostsMoreThanAllOtherCells(t *testing.T) {
	const entry, from, goal, trap, below = 0, 1, 2, 3, most + 2
	const long = 32000
	g := snake(t)
	if far := dist.Far(g, entry, goal, nil); far < long || far >= astray {
		t.Fatalf("the long way has %d steps", far)
	}
	if far := dist.Far(g, trap, goal, nil); far != -1 {
		t.Fatalf("out of the trap there is a way of %d steps", far)
	}
	last := func(cell int) []int { return append(slices.Repeat([]int{-1}, steps), cell) }
	others := [][]int{last(from), last(goal), last(below), {-1, -1, entry, entry, entry, entry, entry}}
	want := []int{from, entry, most, 2 * most, 3 * most, 4 * most, 5 * most}
	expect(t, "the long way", g, from, goal, nil, others, want)
	expect(t, "the trap", g, from, goal, []int{entry}, others, []int{from, goal, goal, goal, goal, goal, trap})
}

// snake returns a grid whose first row has the one-way entry to a very long way, a cell, the goal, and a trap that nobody
// can leave. The long way leads to the one-way cell below the goal.
func snake(t *testing.T) api.Grid {
	t.Helper()
	rows := []string{"v..^" + strings.Repeat("#", most-4), "v#^" + strings.Repeat("#", most-3)}
	for y := 2; y < most-1; y++ {
		switch {
		case y%2 == 0:
			rows = append(rows, ".#"+strings.Repeat(".", most-2))
		case y%4 == 3:
			rows = append(rows, ".#"+strings.Repeat("#", most-3)+".")
		default:
			rows = append(rows, ".#."+strings.Repeat("#", most-3))
		}
	}
	return parse(t, append(rows, strings.Repeat(".", most))...)
}

// chosen returns a grid of letters among some, with cells that are often no walls, blocked cells, and other paths, which
// are mostly such that robots could take them, as r chooses.
func chosen(r *rand.Rand) (g api.Grid, from, to int, blocked []int, others [][]int) {
	among := []string{"....", ".....#", "...><^v", "....SC#>"}[r.Intn(4)]
	w, h := 1+r.Intn(5), 1+r.Intn(4)
	b := make([]byte, w*h)
	for i := range b {
		b[i] = among[r.Intn(len(among))]
	}
	g = api.Grid{W: w, H: h, Cells: string(b)}
	for range r.Intn(4) {
		blocked = append(blocked, r.Intn(len(b)))
	}
	for range r.Intn(6) {
		others = append(others, walk(r, g, 1+r.Intn(steps+2)))
	}
	return g, r.Intn(len(b)), r.Intn(len(b)), blocked, others
}

// walk returns cells that follow each other on a grid, or now and then do not, as r chooses.
func walk(r *rand.Rand, g api.Grid, long int) []int {
	cell := r.Intn(len(g.Cells))
	restless := r.Intn(3)
	var path []int
	for range long {
		path = append(path, cell)
		for range restless {
			if to, is := grid.Goes(g, cell, r.Intn(5)); is {
				cell = to
				break
			}
		}
		if r.Intn(20) == 0 {
			cell = r.Intn(len(g.Cells))
		}
	}
	return path
}

func TestChosenPaths(t *testing.T) {
	r := rand.New(rand.NewSource(1))
	kinds := map[bool]int{}
	for range 6000 {
		g, from, to, blocked, others := chosen(r)
		kinds[expectJudged(t, g, from, to, blocked, others)]++
	}
	if kinds[false] < 500 || kinds[true] < 500 {
		t.Errorf("%d have no path, %d have one", kinds[false], kinds[true])
	}
}

// TestAllPathsOfTwo has all short paths of another robot in small rooms, and in a row.
func TestAllPathsOfTwo(t *testing.T) {
	for _, g := range []api.Grid{parse(t, "..", ".."), parse(t, "..."), parse(t, ">.", "..")} {
		for start := range g.Cells {
			all := [][]int{{start}}
			for i := 0; i < len(all); i++ {
				path := all[i]
				if len(path) == 4 {
					break
				}
				for _, way := range grid.Ways(g, path[len(path)-1]) {
					cell, _ := grid.Goes(g, path[len(path)-1], way)
					all = append(all, append(slices.Clone(path), cell))
				}
			}
			for _, other := range all {
				for from := range g.Cells {
					expectJudged(t, g, from, 0, nil, [][]int{other})
					expectJudged(t, g, from, len(g.Cells)-1, []int{start}, [][]int{other})
				}
			}
		}
	}
}

// TestNobodyInTheWay is the stage's theorem for paths that no other one meets: each step leads one nearer till the goal
// is reached; there the path stays.
func TestNobodyInTheWay(t *testing.T) {
	r := rand.New(rand.NewSource(2))
	far := 0
	for range 3000 {
		g, from, to, blocked, _ := chosen(r)
		if !grid.Floor(g, from) || !grid.Floor(g, to) {
			continue
		}
		l, is := plan.Path(g, from, to, blocked, nil)
		if !is || len(l) != steps+1 || l[0] != from {
			t.Fatalf("Path(%v, %d, %d, %v) = %v, %t", g, from, to, blocked, l, is)
		}
		left := dist.Far(g, from, to, blocked)
		for i, cell := range l {
			want := max(left-i, 0)
			if left == -1 {
				want = -1
			}
			if dist.Far(g, cell, to, blocked) != want || left == -1 && cell != from {
				t.Fatalf("Path(%v, %d, %d, %v) = %v: %d is not %d from the goal", g, from, to, blocked, l, cell, want)
			}
		}
		if left > 3 {
			far++
		}
	}
	if far < 100 {
		t.Errorf("only %d goals are far", far)
	}
}

// TestNoPathCollides is the stage's theorem for paths that others meet.
func TestNoPathCollides(t *testing.T) {
	r := rand.New(rand.NewSource(3))
	for range 3000 {
		g, from, to, blocked, others := chosen(r)
		l, is := plan.Path(g, from, to, blocked, others)
		if !is {
			continue
		}
		for _, other := range others {
			for i := 1; i < min(len(l), len(other)); i++ {
				if l[i] == other[i] || l[i] == other[i-1] && l[i-1] == other[i] {
					t.Fatalf("Path(%v, %d, %d, %v, %v) = %v collides at %d", g, from, to, blocked, others, l, i)
				}
			}
		}
	}
}

// crew returns robots in cells, of which those with a goal carry a task there; -1 stands for no goal.
func crew(g api.Grid, cells, goals []int) api.State {
	var s api.State
	for i, cell := range cells {
		robot := api.Robot{Cell: cell, Battery: 500}
		if goals[i] >= 0 {
			robot.Mode, robot.Task = api.Carrying, i+1
			from := 0
			for from == goals[i] || !grid.Floor(g, from) {
				from++
			}
			s.Tasks = append(s.Tasks, api.Task{Id: i + 1, From: from, To: goals[i], State: api.Carried, Robot: i})
		}
		s.Robots = append(s.Robots, robot)
	}
	return s
}

// valid reports a state that is not, for a test that means it to be.
func valid(t *testing.T, g api.Grid, s api.State) api.State {
	t.Helper()
	if !state.Right(g, s) {
		t.Fatalf("the state %v is not valid on %v", s, g)
	}
	return s
}

func equalPaths(a, b [][]int) bool { return slices.EqualFunc(a, b, slices.Equal[[]int]) }

// judgePlans is the test's own Plans, with the judge's paths.
func judgePlans(g api.Grid, s api.State) [][]int {
	l := make([][]int, len(s.Robots))
	var others [][]int
	for i, r := range s.Robots {
		if _, is := state.Goal(g, s, i); !is {
			l[i] = stay(r.Cell)
			others = append(others, l[i])
		}
	}
	for i, r := range s.Robots {
		if goal, is := state.Goal(g, s, i); is {
			path, is := judge(g, r.Cell, goal, s.Blocked, others)
			if !is {
				path = stay(r.Cell)
			}
			l[i] = path
			others = append(others, path)
		}
	}
	return l
}

// expectPlans reports plans other than wanted, or than the judge's, and arguments that have changed.
func expectPlans(t *testing.T, name string, g api.Grid, s api.State, want [][]int) {
	t.Helper()
	was := state.Copy(s)
	l := plan.Plans(g, s)
	if !equalPaths(l, want) {
		t.Errorf("%s: Plans(%s, %s) = %v, want %v", name, brief(g), brief(s), l, want)
	}
	if judged := judgePlans(g, s); !equalPaths(l, judged) {
		t.Errorf("%s: Plans(%s, %s) = %v, the judge's are %v", name, brief(g), brief(s), l, judged)
	}
	if !state.Same(s, was) {
		t.Errorf("%s: Plans changed %s to %s", name, brief(was), brief(s))
	}
}

func TestPlans(t *testing.T) {
	row := parse(t, "......")
	block := parse(t, "......", "......")
	for _, x := range []struct {
		name         string
		g            api.Grid
		cells, goals []int
		blocked      []int
		want         [][]int
	}{
		{"no robots", row, nil, nil, nil, nil},
		{"no robots, a blocked cell", row, nil, nil, []int{2}, nil},
		{"one without a goal", row, []int{3}, []int{-1}, nil, [][]int{stay(3)}},
		{"several without a goal", row, []int{3, 5, 0}, []int{-1, -1, -1}, []int{3}, [][]int{stay(3), stay(5), stay(0)}},
		{"one with a goal", row, []int{1}, []int{4}, nil, [][]int{{1, 2, 3, 4, 4, 4, 4}}},
		{"one at its goal", row, []int{1}, []int{1}, nil, [][]int{stay(1)}},
		{"one without a goal in the way", row, []int{1, 3}, []int{4, -1}, nil, [][]int{{1, 2, 2, 2, 2, 2, 2}, stay(3)}},
		{"a first one without a goal in the way", row, []int{3, 1}, []int{-1, 4}, nil, [][]int{stay(3), {1, 2, 2, 2, 2, 2, 2}}},
		{"around one without a goal", block, []int{1, 2}, []int{4, -1}, nil, [][]int{{1, 7, 8, 9, 3, 4, 4}, stay(2)}},
		{"one behind the other", row, []int{1, 0}, []int{4, 3}, nil, [][]int{{1, 2, 3, 4, 4, 4, 4}, {0, 1, 2, 3, 3, 3, 3}}},
		{"one before the other", row, []int{0, 1}, []int{3, 4}, nil, [][]int{{0, 1, 2, 3, 3, 3, 3}, {1, 2, 3, 4, 4, 4, 4}}},
		{"one goal for two", row, []int{0, 1}, []int{4, 4}, nil, [][]int{{0, 1, 2, 3, 4, 4, 4}, {1, 2, 3, 4, 5, 5, 5}}},
		{"one goal for two, the near one first", row, []int{1, 0}, []int{4, 4}, nil, [][]int{{1, 2, 3, 4, 4, 4, 4}, {0, 1, 2, 3, 3, 3, 3}}},
		{"two that meet in a row: the second has no path", row, []int{0, 3}, []int{5, 0}, nil, [][]int{{0, 1, 2, 3, 4, 5, 5}, stay(3)}},
		{"the lesser index goes first", block, []int{0, 3}, []int{3, 0}, nil, [][]int{{0, 1, 2, 3, 3, 3, 3}, {3, 2, 8, 2, 1, 0, 0}}},
		{"the other way round", block, []int{3, 0}, []int{0, 3}, nil, [][]int{{3, 2, 1, 0, 0, 0, 0}, {0, 1, 7, 1, 2, 3, 3}}},
		{"blocked cells", block, []int{0, 5}, []int{4, -1}, []int{1, 9}, [][]int{{0, 6, 7, 8, 2, 3, 4}, stay(5)}},
		{"a blocked goal", row, []int{0}, []int{3}, []int{3}, [][]int{stay(0)}},
		{"in a blocked cell", row, []int{0}, []int{3}, []int{0}, [][]int{{0, 1, 2, 3, 3, 3, 3}}},
		{"shut in by those without goals", row, []int{2, 1, 3}, []int{5, -1, -1}, nil, [][]int{stay(2), stay(1), stay(3)}},
	} {
		s := crew(x.g, x.cells, x.goals)
		s.Blocked = x.blocked
		expectPlans(t, x.name, x.g, valid(t, x.g, s), x.want)
	}
}

// TestThreeInARow has a first robot that drives a second one off, which drives a third one off.
func TestThreeInARow(t *testing.T) {
	g := parse(t, ".......")
	s := valid(t, g, crew(g, []int{0, 2, 4}, []int{3, 0, 1}))
	expectPlans(t, "three", g, s, [][]int{
		{0, 1, 2, 3, 3, 3, 3},
		{2, 2, 3, 4, 4, 4, 4},
		{4, 3, 4, 5, 5, 5, 5},
	})
}

// TestWhoHasNoPathIsInTheWay has a first robot that goes through the cell of a second one, which cannot make way. Without
// the second one the third one could go through this cell, too.
func TestWhoHasNoPathIsInTheWay(t *testing.T) {
	g := parse(t,
		"##.",
		"...",
		"##.")
	s := crew(g, []int{3, 5, 2}, []int{8, 3, 4})
	s.Blocked = []int{2}
	first := []int{3, 4, 5, 8, 8, 8, 8}
	expectPlans(t, "all three", g, valid(t, g, s), [][]int{first, stay(5), stay(2)})
	expect(t, "the second", g, 5, 3, []int{2}, [][]int{first}, nil)
	expect(t, "the third without the second", g, 2, 4, []int{2}, [][]int{first}, []int{2, 2, 2, 5, 4, 4, 4})
}

// TestWhoHasAGoal has a robot of each kind.
func TestWhoHasAGoal(t *testing.T) {
	g := parse(t,
		".....C",
		"......",
		"C.....")
	tasks := []api.Task{{Id: 7, From: 8, To: 11, State: api.Taken}, {Id: 8, From: 1, To: 9, State: api.Carried}}
	for _, x := range []struct {
		name  string
		robot api.Robot
		task  []api.Task
		want  []int
	}{
		{"idle", api.Robot{Cell: 6, Battery: 9}, nil, stay(6)},
		{"fetching", api.Robot{Cell: 6, Mode: api.Fetching, Task: 7, Battery: 9}, tasks[:1], []int{6, 7, 8, 8, 8, 8, 8}},
		{"carrying", api.Robot{Cell: 6, Mode: api.Carrying, Task: 8, Battery: 9}, tasks[1:], []int{6, 7, 8, 9, 9, 9, 9}},
		{"charging", api.Robot{Cell: 8, Mode: api.Charging, Battery: 9}, nil, []int{8, 14, 13, 12, 12, 12, 12}},
		{"charging, near the other one", api.Robot{Cell: 9, Mode: api.Charging, Battery: 9}, nil, []int{9, 3, 4, 5, 5, 5, 5}},
		{"faulted", api.Robot{Cell: 6, Mode: api.Faulted, Battery: 9}, nil, stay(6)},
		{"faulted with a task", api.Robot{Cell: 6, Mode: api.Faulted, Task: 8, Battery: 9}, tasks[1:], stay(6)},
		{"held", api.Robot{Cell: 6, Mode: api.Carrying, Task: 8, Battery: 9, Hold: 1}, tasks[1:], stay(6)},
		{"without battery", api.Robot{Cell: 6, Mode: api.Carrying, Task: 8}, tasks[1:], stay(6)},
		{"with a little battery", api.Robot{Cell: 6, Mode: api.Carrying, Task: 8, Battery: 1}, tasks[1:], []int{6, 7, 8, 9, 9, 9, 9}},
	} {
		expectPlans(t, x.name, g, valid(t, g, api.State{Robots: []api.Robot{x.robot}, Tasks: x.task}), [][]int{x.want})
	}
	without := parse(t, ".....#C")
	s := api.State{Robots: []api.Robot{{Cell: 2, Mode: api.Charging, Battery: 9}}}
	expectPlans(t, "charging, without a charger", without, valid(t, without, s), [][]int{stay(2)})
	s.Robots[0].Cell, s.Blocked = 8, []int{12}
	expectPlans(t, "charging, the near one blocked", g, valid(t, g, s), [][]int{{8, 2, 3, 4, 5, 5, 5}})
}

// chosenState returns a valid state of robots of all kinds, as r chooses.
func chosenState(t *testing.T, r *rand.Rand, g api.Grid) api.State {
	t.Helper()
	var cells []int
	for _, cell := range r.Perm(len(g.Cells)) {
		if grid.Floor(g, cell) {
			cells = append(cells, cell)
		}
	}
	s, e := state.New(g, cells[:r.Intn(len(cells)+1)])
	if e != api.OK {
		t.Fatal(e)
	}
	for i := range s.Robots {
		a, b := cells[r.Intn(len(cells))], cells[r.Intn(len(cells))]
		switch kind := r.Intn(8); {
		case kind == 0:
			s.Robots[i].Mode = api.Charging
		case kind == 1:
			s.Robots[i].Mode = api.Faulted
		case kind < 7 && a != b:
			task := api.Task{Id: 1 + i*3, From: a, To: b, State: api.Carried, Robot: i}
			s.Robots[i].Mode, s.Robots[i].Task = api.Carrying, task.Id
			if kind == 2 {
				task.State, s.Robots[i].Mode = api.Taken, api.Fetching
			}
			s.Tasks = append(s.Tasks, task)
		}
		if r.Intn(9) == 0 {
			s.Robots[i].Hold = 2
		}
		if r.Intn(9) == 0 {
			s.Robots[i].Battery = 0
		}
	}
	for _, cell := range cells[:r.Intn(min(3, len(cells)))] {
		s.Blocked = append(s.Blocked, cell)
	}
	slices.Sort(s.Blocked)
	return valid(t, g, s)
}

func TestChosenPlans(t *testing.T) {
	r := rand.New(rand.NewSource(4))
	moving, stuck := 0, 0
	for range 700 {
		g, from, to, _, _ := chosen(r)
		if !grid.Floor(g, from) || !grid.Floor(g, to) {
			continue
		}
		s := chosenState(t, r, g)
		want := judgePlans(g, s)
		expectPlans(t, "chosen", g, s, want)
		for i, path := range plan.Plans(g, s) {
			if len(path) != steps+1 || path[0] != s.Robots[i].Cell {
				t.Fatalf("robot %d of %v has the path %v", i, s, path)
			}
			if _, is := state.Goal(g, s, i); is && path[steps] != path[0] {
				moving++
			} else if is {
				stuck++
			}
		}
	}
	if moving < 300 || stuck < 300 {
		t.Errorf("%d robots with a goal move, %d stay", moving, stuck)
	}
}

func TestResultsShareNothing(t *testing.T) {
	g := parse(t, "....", "....")
	blocked, other, more := []int{5, 77, 78}, []int{2, 2, 6, 77, 78}, []int{7, 77}
	others := [][]int{other[:3], more[:1], {70}}
	call := func() []int {
		l, is := plan.Path(g, 0, 3, blocked[:1], others[:2])
		if !is {
			t.Fatal("there is no path")
		}
		return l
	}
	first, second := call(), call()
	kept := slices.Clone(second)
	clear(first[:cap(first)])
	if !slices.Equal(blocked, []int{5, 77, 78}) || !slices.Equal(other, []int{2, 2, 6, 77, 78}) || !slices.Equal(more, []int{7, 77}) || !slices.Equal(others[2], []int{70}) || len(others[0]) != 3 {
		t.Error("the arguments, or what lies behind them, have changed")
	}
	clear(blocked)
	clear(other)
	if !slices.Equal(second, kept) {
		t.Error("a result shares memory with an argument or with another result")
	}
}

func TestPlansShareNothing(t *testing.T) {
	g := parse(t, "....", "....")
	s := valid(t, g, crew(g, []int{0, 3, 4, 7}, []int{2, -1, -1, 2}))
	s.Blocked = []int{5}
	was := state.Copy(s)
	first, second := plan.Plans(g, s), plan.Plans(g, s)
	kept := cloned(second)
	for i, path := range first {
		path = path[:cap(path)]
		for k := range path {
			path[k] = -7
		}
		for j, other := range first {
			if j > i && slices.Contains(other, -7) {
				t.Errorf("the paths %d and %d share memory", i, j)
			}
		}
	}
	clear(first[:cap(first)])
	if !state.Same(s, was) {
		t.Error("the state has changed")
	}
	clear(s.Robots)
	clear(s.Tasks)
	clear(s.Blocked)
	if !equalPaths(second, kept) {
		t.Error("a result shares memory with an argument or with another result")
	}
}

func TestEmptySlicesAreLikeNil(t *testing.T) {
	g := parse(t, "...")
	want := []int{0, 1, 2, 2, 2, 2, 2}
	expect(t, "empty", g, 0, 2, []int{}, [][]int{}, want)
	expect(t, "empty and nil", g, 0, 2, []int{}, nil, want)
	expect(t, "of empty ones", g, 0, 2, nil, [][]int{nil, {}, nil}, want)
	s := api.State{Robots: []api.Robot{}, Tasks: []api.Task{}, Blocked: []int{}}
	expectPlans(t, "empty", g, s, nil)
	s = crew(g, []int{0}, []int{2})
	s.Blocked = []int{}
	expectPlans(t, "nothing blocked", g, s, [][]int{want})
}

// TestOthersMayBeOneSlice has other paths that share their elements.
func TestOthersMayBeOneSlice(t *testing.T) {
	g := parse(t, ".....")
	l := []int{9, 2, 9, 2, 9, 2, 9, 2}
	expect(t, "overlap", g, 0, 4, l[:0], [][]int{l, l[:3], l[4:]}, []int{0, 1, 2, 3, 4, 4, 4})
	expect(t, "the same", g, 0, 4, nil, [][]int{l[1:], l[1:]}, []int{0, 1, 1, 2, 3, 4, 4})
}

func TestAnswersDependOnArgumentsAlone(t *testing.T) {
	r := rand.New(rand.NewSource(5))
	for range 60 {
		g, from, to, blocked, others := chosen(r)
		want, _ := plan.Path(g, from, to, blocked, others)
		for range 10 {
			expect(t, "again", g, from, to, blocked, others, want)
			g2, from2, to2, blocked2, others2 := chosen(r)
			plan.Path(g2, from2, to2, blocked2, others2)
		}
	}
	g := parse(t, "......", ".C..C.", "......")
	for range 30 {
		s := chosenState(t, r, g)
		want := plan.Plans(g, s)
		for range 5 {
			if l := plan.Plans(g, s); !equalPaths(l, want) {
				t.Fatalf("Plans(%v) = %v, and %v before", s, l, want)
			}
		}
	}
}

func TestOrderOfOthersAndBlockedDoesNotMatter(t *testing.T) {
	r := rand.New(rand.NewSource(6))
	for range 300 {
		g, from, to, blocked, others := chosen(r)
		want, _ := plan.Path(g, from, to, blocked, others)
		slices.Reverse(blocked)
		slices.Reverse(others)
		expect(t, "reversed", g, from, to, blocked, others, want)
	}
}

func TestCallsAtTheSameTime(t *testing.T) {
	r := rand.New(rand.NewSource(7))
	g := parse(t, "......", ".C..C.", "......")
	s := chosenState(t, r, g)
	for len(s.Robots) < 8 {
		s = chosenState(t, r, g)
	}
	others := plan.Plans(g, s)[1:]
	want, is := plan.Path(g, s.Robots[0].Cell, 17, s.Blocked, others)
	plans := judgePlans(g, s)
	var all sync.WaitGroup
	for range 8 {
		all.Go(func() {
			for range 50 {
				if l, ok := plan.Path(g, s.Robots[0].Cell, 17, s.Blocked, others); ok != is || !slices.Equal(l, want) {
					t.Error("Path differs")
					return
				}
				if l := plan.Plans(g, s); !equalPaths(l, plans) {
					t.Error("Plans differ")
					return
				}
			}
		})
	}
	all.Wait()
}

// TestWrongInputs has grids and states that are not valid: nothing is promised about them but that the calls end.
func TestWrongInputs(t *testing.T) {
	cells := append([]int{0, 1, 2, 3, 8}, absent...)
	for _, g := range []api.Grid{
		{},
		{W: 3},
		{W: 0, H: 3, Cells: "..."},
		{W: -1, H: -3, Cells: "..."},
		{W: math.MinInt, H: 1, Cells: "..."},
		{W: math.MaxInt, H: math.MaxInt, Cells: "..."},
		{W: 2, H: 2, Cells: "..."},
		{W: 2, H: 1, Cells: "....."},
		{W: 3, H: 1, Cells: "x?\x00"},
		{W: 2, H: 1, Cells: "\xff\n"},
		{W: 3, H: 1, Cells: "..."},
	} {
		for _, from := range cells {
			for _, to := range cells {
				plan.Path(g, from, to, cells, [][]int{cells, nil})
				plan.Path(g, from, to, nil, nil)
			}
			for mode := -1; mode < 7; mode++ {
				for _, task := range []int{-1, 0, 1, 2, math.MaxInt} {
					robot := api.Robot{Cell: from, Mode: mode, Task: task, Battery: 9}
					s := api.State{Tick: -1, Robots: []api.Robot{robot, robot}, Tasks: []api.Task{{Id: 1, From: from, To: 2}, {Id: 1, From: -5}}, Blocked: cells}
					if l := plan.Plans(g, s); len(l) != 2 {
						t.Errorf("Plans(%v, %v) = %v", g, s, l)
					}
				}
			}
		}
	}
	g := parse(t, "...")
	s := api.State{Robots: []api.Robot{{Cell: 0, Mode: api.Carrying, Task: 1, Battery: 1}, {Cell: 2}}, Tasks: []api.Task{{Id: 1, From: 0, To: -1}}}
	if l := plan.Plans(g, s); !equalPaths(l, [][]int{stay(0), stay(2)}) {
		t.Errorf("a goal outside the grid: %v", l)
	}
}

// many returns the largest grid with as many robots as there can be, of which each has a goal; different ones or a few.
func many(t testing.TB, r *rand.Rand, goals int) (api.Grid, api.State) {
	t.Helper()
	g := api.Grid{W: most, H: most, Cells: strings.Repeat(".", most*most)}
	all := r.Perm(most * most)
	var to []int
	for i := range api.MostTasks {
		to = append(to, all[api.MostRobots+i%goals])
	}
	s := crew(g, all[:api.MostTasks], to)
	for _, cell := range all[api.MostTasks:api.MostRobots] {
		s.Robots = append(s.Robots, api.Robot{Cell: cell, Battery: 5})
	}
	if !state.Right(g, s) {
		t.Fatal("the state is not valid")
	}
	return g, s
}

// TestManyRobots would take long if each path looked at all others anew, and at all distances for each robot.
func TestManyRobots(t *testing.T) {
	g, s := many(t, rand.New(rand.NewSource(8)), 20)
	l := plan.Plans(g, s)
	for i := range l {
		var others [][]int
		for j := range l {
			if j < i || j >= api.MostTasks {
				others = append(others, l[j])
			}
		}
		if i < api.MostTasks && !permitted(g, l[i], s.Blocked, others) {
			t.Fatalf("robot %d has the path %v", i, l[i])
		}
		if i >= api.MostTasks && !slices.Equal(l[i], stay(s.Robots[i].Cell)) {
			t.Fatalf("robot %d without a goal has the path %v", i, l[i])
		}
	}
	for _, i := range []int{0, 1, 500, api.MostTasks - 1} {
		goal, _ := state.Goal(g, s, i)
		expect(t, "one of many", g, s.Robots[i].Cell, goal, nil, slices.Concat(l[api.MostTasks:], l[:i]), l[i])
	}
}

func TestManyOthers(t *testing.T) {
	g := parse(t, "......")
	others := slices.Repeat([][]int{{9, 9, 2, 8, 8, 8, 8}}, 100000)
	others = append(others, slices.Repeat([]int{5}, 1000000))
	expect(t, "many", g, 0, 5, nil, others, []int{0, 1, 1, 2, 3, 4, 4})
}

func TestImports(t *testing.T) {
	f, err := parser.ParseFile(token.NewFileSet(), "plan.go", nil, parser.ImportsOnly)
	if err != nil {
		t.Fatal(err)
	}
	for _, i := range f.Imports {
		if !slices.Contains([]string{`"tugger/api"`, `"tugger/dist"`, `"tugger/grid"`, `"tugger/state"`}, i.Path.Value) {
			t.Error("plan imports", i.Path.Value)
		}
	}
}

func BenchmarkPlansOfManyRobotsWithFewGoals(b *testing.B) {
	g, s := many(b, rand.New(rand.NewSource(9)), 20)
	for b.Loop() {
		plan.Plans(g, s)
	}
}

func BenchmarkPath(b *testing.B) {
	g := api.Grid{W: 32, H: 32, Cells: strings.Repeat(".", 1024)}
	for b.Loop() {
		plan.Path(g, 0, 1023, nil, [][]int{stay(33), stay(66)})
	}
}
