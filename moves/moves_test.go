package moves_test

import (
	"fmt"
	"go/parser"
	"go/token"
	"math"
	"math/rand"
	"slices"
	"strings"
	"sync"
	"testing"

	"tugger/api"
	"tugger/grid"
	"tugger/moves"
)

const (
	most    = api.MostSide
	letters = ".#SC><^v"
)

// These are written shortly in tables.
type (
	list  = []int
	lists = [][]int
	pairs = [][2]int
)

// absent are numbers that are no cells of any grid.
var absent = []int{math.MinInt, math.MinInt + 1, -most, -2, -1, most * most, most*most + 1, 1 << 32, math.MaxInt - 1, math.MaxInt}

// none are numbers that are no directions.
var none = []int{math.MinInt, -1 << 32, -2, -1, 5, 6, 7, 8, 256, 1 << 32, 1<<32 + 2, math.MaxInt}

// parse returns the grid of rows, which must be one.
func parse(t testing.TB, rows ...string) api.Grid {
	t.Helper()
	g, e := grid.Parse(strings.Join(rows, "\n") + "\n")
	if e != api.OK {
		t.Fatalf("Parse(%q): %d", rows, e)
	}
	return g
}

// open returns a grid of floor.
func open(w, h int) api.Grid { return api.Grid{W: w, H: h, Cells: strings.Repeat(".", w*h)} }

// brief says what a value is in a few words.
func brief(v any) string {
	s := fmt.Sprint(v)
	if len(s) > 300 {
		return s[:300] + ".."
	}
	return s
}

// numbers returns those from first on.
func numbers(first, many int) []int {
	l := make([]int, many)
	for i := range l {
		l[i] = first + i
	}
	return l
}

// same reports whether lists have the same elements.
func same(a, b lists) bool { return slices.EqualFunc(a, b, slices.Equal[list]) }

// clone returns lists with slices of their own.
func clone(l lists) lists {
	var other lists
	for _, x := range l {
		other = append(other, slices.Clone(x))
	}
	return other
}

// expectWays reports what Ways does other than to return wanted directions.
func expectWays(t *testing.T, name string, g api.Grid, from, to, want list) {
	t.Helper()
	if l, e := moves.Ways(g, from, to); e != api.OK || !slices.Equal(l, want) {
		t.Errorf("%s: Ways(%s, %s, %s) = %s, %d, want %s", name, brief(g), brief(from), brief(to), brief(l), e, brief(want))
	}
}

// expectNoWays reports what Ways does other than to return ErrArg and nothing else.
func expectNoWays(t *testing.T, name string, g api.Grid, from, to list) {
	t.Helper()
	if l, e := moves.Ways(g, from, to); e != api.ErrArg || len(l) != 0 {
		t.Errorf("%s: Ways(%s, %s, %s) = %s, %d, want ErrArg", name, brief(g), brief(from), brief(to), brief(l), e)
	}
}

// expectGo reports what Go does other than to return wanted cells.
func expectGo(t *testing.T, name string, g api.Grid, cells, ways, want list) {
	t.Helper()
	if l, e := moves.Go(g, cells, ways); e != api.OK || !slices.Equal(l, want) {
		t.Errorf("%s: Go(%s, %s, %s) = %s, %d, want %s", name, brief(g), brief(cells), brief(ways), brief(l), e, brief(want))
	}
}

// expectNoGo reports what Go does other than to return ErrArg and nothing else.
func expectNoGo(t *testing.T, name string, g api.Grid, cells, ways list) {
	t.Helper()
	if l, e := moves.Go(g, cells, ways); e != api.ErrArg || len(l) != 0 {
		t.Errorf("%s: Go(%s, %s, %s) = %s, %d, want ErrArg", name, brief(g), brief(cells), brief(ways), brief(l), e)
	}
}

// expectWalk reports what Walk does other than to return wanted lists of cells.
func expectWalk(t *testing.T, name string, g api.Grid, cells list, l, want lists) {
	t.Helper()
	if all, e := moves.Walk(g, cells, l); e != api.OK || !same(all, want) {
		t.Errorf("%s: Walk(%s, %s, %s) = %s, %d, want %s", name, brief(g), brief(cells), brief(l), brief(all), e, brief(want))
	}
}

// expectNoWalk reports what Walk does other than to return ErrArg and nothing else.
func expectNoWalk(t *testing.T, name string, g api.Grid, cells list, l lists) {
	t.Helper()
	if all, e := moves.Walk(g, cells, l); e != api.ErrArg || len(all) != 0 {
		t.Errorf("%s: Walk(%s, %s, %s) = %s, %d, want ErrArg", name, brief(g), brief(cells), brief(l), brief(all), e)
	}
}

// expectNear reports what Near does other than to return wanted pairs.
func expectNear(t *testing.T, name string, g api.Grid, cells list, want pairs) {
	t.Helper()
	if l := moves.Near(g, cells); !slices.Equal(l, want) {
		t.Errorf("%s: Near(%s, %s) = %s, want %s", name, brief(g), brief(cells), brief(l), brief(want))
	}
}

// goes is the test's own grid.Goes, by the words of that chapter.
func goes(g api.Grid, cell, way int) (int, bool) {
	if cell < 0 || cell >= g.W*g.H || g.Cells[cell] == '#' {
		return 0, false
	}
	if way == api.Stay {
		return cell, true
	}
	only := map[byte]int{'^': api.North, '>': api.East, 'v': api.South, '<': api.West}
	if one, is := only[g.Cells[cell]]; is && one != way {
		return 0, false
	}
	x, y := cell%g.W, cell/g.W
	switch way {
	case api.North:
		y--
	case api.East:
		x++
	case api.South:
		y++
	case api.West:
		x--
	default:
		return 0, false
	}
	if x < 0 || x >= g.W || y < 0 || y >= g.H || g.Cells[y*g.W+x] == '#' {
		return 0, false
	}
	return y*g.W + x, true
}

// judgeWays is the test's own Ways.
func judgeWays(g api.Grid, from, to list) (list, api.Errno) {
	if len(from) != len(to) {
		return nil, api.ErrArg
	}
	var l list
	for i := range from {
		least := -1
		for way := 4; way >= 0; way-- {
			if cell, ok := goes(g, from[i], way); ok && cell == to[i] {
				least = way
			}
		}
		if least < 0 {
			return nil, api.ErrArg
		}
		l = append(l, least)
	}
	return l, api.OK
}

// judgeGo is the test's own Go.
func judgeGo(g api.Grid, cells, ways list) (list, api.Errno) {
	if len(cells) != len(ways) {
		return nil, api.ErrArg
	}
	var l list
	for i := range cells {
		cell, ok := goes(g, cells[i], ways[i])
		if !ok {
			return nil, api.ErrArg
		}
		l = append(l, cell)
	}
	return l, api.OK
}

// judgeWalk is the test's own Walk.
func judgeWalk(g api.Grid, cells list, l lists) (lists, api.Errno) {
	all := lists{cells}
	for _, ways := range l {
		next, e := judgeGo(g, all[len(all)-1], ways)
		if e != api.OK {
			return nil, e
		}
		all = append(all, next)
	}
	return all, api.OK
}

// adjacent is the chapter's condition for the cells of two robots.
func adjacent(g api.Grid, a, b int) bool {
	for _, cell := range []int{a, b} {
		if cell < 0 || cell >= g.W*g.H {
			return false
		}
	}
	columns, rows := a%g.W-b%g.W, a/g.W-b/g.W
	return rows == 0 && (columns == 1 || columns == -1) || columns == 0 && (rows == 1 || rows == -1)
}

// judgeNear is the test's own Near.
func judgeNear(g api.Grid, cells list) pairs {
	var l pairs
	for i := range cells {
		for j := i + 1; j < len(cells); j++ {
			if adjacent(g, cells[i], cells[j]) {
				l = append(l, [2]int{i, j})
			}
		}
	}
	return l
}

// samples returns grids with all letters, of different shapes.
func samples(t testing.TB) []api.Grid {
	return []api.Grid{
		parse(t, "."),
		parse(t, "#"),
		parse(t, ">"),
		parse(t, ".."),
		parse(t, ".", "."),
		parse(t, ".>.<.#.S"),
		parse(t, ".", "^", ".", "v", ".", "#", "C", "v"),
		parse(t, "..>", "#.."),
		parse(t, "....", "....", "...."),
		parse(t, "S.v.", "^#<C", ">..#", ".^>v"),
		parse(t, "v<<", "v#^", ">>^"),
		parse(t, "###", "###"),
	}
}

func TestWays(t *testing.T) {
	g := parse(t,
		"..>.", // 0 to 3
		"#.v.", // 4 to 7
		"<^SC") // 8 to 11
	for _, x := range []struct {
		name           string
		from, to, want list
	}{
		{"nothing", nil, nil, nil},
		{"the example", list{0}, list{1}, list{api.East}},
		{"stays", list{5}, list{5}, list{api.Stay}},
		{"north", list{5}, list{1}, list{api.North}},
		{"east", list{5}, list{6}, list{api.East}},
		{"south", list{5}, list{9}, list{api.South}},
		{"west", list{1}, list{0}, list{api.West}},
		{"all of one cell", list{1, 1, 1, 1}, list{1, 2, 5, 0}, list{0, 2, 3, 4}},
		{"back", list{0, 1}, list{1, 0}, list{2, 4}},
		{"several to one cell", list{1, 3, 6}, list{2, 2, 6}, list{2, 4, 0}},
		{"several from one cell", list{7, 7, 7}, list{3, 7, 11}, list{1, 0, 3}},
		{"one-way cells stay", list{2, 6, 8, 9}, list{2, 6, 8, 9}, list{0, 0, 0, 0}},
		{"one-way cells go", list{2, 6, 9}, list{3, 10, 5}, list{2, 3, 1}},
		{"into a one-way cell from each side", list{9, 3, 5, 10}, list{5, 2, 9, 9}, list{1, 4, 3, 4}},
		{"station and charger", list{10, 11}, list{11, 10}, list{2, 4}},
		{"in no order", list{11, 0, 7, 1}, list{7, 0, 3, 5}, list{1, 0, 1, 3}},
	} {
		expectWays(t, x.name, g, x.from, x.to, x.want)
		expectGo(t, x.name, g, x.from, x.want, x.to)
		if l, e := judgeWays(g, x.from, x.to); e != api.OK || !slices.Equal(l, x.want) {
			t.Errorf("%s: the judge returns %v, %d", x.name, l, e)
		}
	}
	for _, x := range []struct {
		name     string
		from, to int
	}{
		{"two steps", 1, 3},
		{"diagonal", 1, 6},
		{"two rows", 1, 9},
		{"from the end of a row to the beginning of the next one", 3, 4},
		{"from the beginning of a row to the end of the one above", 8, 7},
		{"into a wall", 0, 4},
		{"into a wall from the side", 5, 4},
		{"out of a wall", 4, 5},
		{"a wall stays", 4, 4},
		{"against a one-way cell", 2, 1},
		{"beside a one-way cell", 2, 6},
		{"up from a one-way cell", 6, 2},
		{"down from a one-way cell", 9, 10},
		{"out of the grid from a one-way cell", 8, 7},
		{"before the first cell", 0, -1},
		{"behind the last cell", 11, 12},
		{"above the first row", 1, -3},
		{"below the last row", 9, 13},
		{"from before the first cell", -1, 0},
		{"from behind the last cell", 12, 11},
		{"from above", -3, 1},
		{"from below", 13, 9},
		{"no cell stays", -1, -1},
		{"no cell behind stays", 12, 12},
	} {
		expectNoWays(t, x.name, g, list{x.from}, list{x.to})
		if l, e := judgeWays(g, list{x.from}, list{x.to}); e != api.ErrArg {
			t.Errorf("%s: the judge returns %v, %d", x.name, l, e)
		}
	}
}

// TestAllSteps has all steps between the cells of grids, and numbers that are no cells.
func TestAllSteps(t *testing.T) {
	for _, g := range samples(t) {
		cells := append(numbers(-g.W-2, g.W*g.H+2*g.W+4), absent...)
		for _, from := range cells {
			for _, to := range cells {
				want, e := judgeWays(g, list{from}, list{to})
				if e != api.OK {
					expectNoWays(t, "step", g, list{from}, list{to})
					continue
				}
				expectWays(t, "step", g, list{from}, list{to}, want)
				expectGo(t, "step", g, list{from}, want, list{to})
			}
		}
	}
}

// TestLeastDirection has cells to which each direction may lead: the one returned is the only one that does, and so is
// the least.
func TestLeastDirection(t *testing.T) {
	for _, g := range samples(t) {
		for from := range g.W * g.H {
			for to := range g.W * g.H {
				var all list
				for _, way := range grid.Ways(g, from) {
					if cell, ok := grid.Goes(g, from, way); ok && cell == to {
						all = append(all, way)
					}
				}
				if len(all) == 0 {
					expectNoWays(t, "least", g, list{from}, list{to})
					continue
				}
				expectWays(t, "least", g, list{from}, list{to}, all[:1])
			}
		}
	}
}

func TestGo(t *testing.T) {
	g := parse(t,
		"..>.", // 0 to 3
		"#.v.", // 4 to 7
		"<^SC") // 8 to 11
	for _, x := range []struct {
		name              string
		cells, ways, want list
	}{
		{"nothing", nil, nil, nil},
		{"all directions", list{5, 5, 5, 5}, list{0, 1, 2, 3}, list{5, 1, 6, 9}},
		{"west", list{1, 3, 11}, list{4, 4, 4}, list{0, 2, 10}},
		{"several in one cell that stay", list{7, 7, 7}, list{0, 0, 0}, list{7, 7, 7}},
		{"several in one cell that part", list{7, 7, 7}, list{1, 3, 4}, list{3, 11, 6}},
		{"several that arrive in one cell", list{1, 3}, list{2, 4}, list{2, 2}},
		{"an exchange", list{10, 11}, list{2, 4}, list{11, 10}},
		{"one follows the other", list{0, 1}, list{2, 2}, list{1, 2}},
		{"one follows the other, the other way round", list{1, 0}, list{2, 2}, list{2, 1}},
		{"one-way cells", list{2, 6, 9, 8}, list{2, 3, 1, 0}, list{3, 10, 5, 8}},
	} {
		expectGo(t, x.name, g, x.cells, x.ways, x.want)
		if l, e := judgeGo(g, x.cells, x.ways); e != api.OK || !slices.Equal(l, x.want) {
			t.Errorf("%s: the judge returns %v, %d", x.name, l, e)
		}
	}
	for _, x := range []struct {
		name      string
		cell, way int
	}{
		{"above the first row", 1, api.North},
		{"the end of a row", 7, api.East},
		{"the end of the last row", 11, api.East},
		{"below the last row", 10, api.South},
		{"the beginning of a row", 0, api.West},
		{"the beginning of the last row, a one-way cell", 8, api.West},
		{"into a wall", 0, api.South},
		{"into a wall from the side", 5, api.West},
		{"out of a wall", 4, api.East},
		{"a wall stays", 4, api.Stay},
		{"a one-way cell back", 2, api.West},
		{"a one-way cell aside", 2, api.South},
		{"no cell", -1, api.East},
		{"no cell stays", -1, api.Stay},
		{"no cell behind", 12, api.West},
		{"no cell behind stays", 12, api.Stay},
		{"no cell below", 13, api.North},
		{"no cell above", -3, api.South},
		{"none of the five", 5, 5},
		{"below the five", 5, -1},
		{"none of the five in a wall", 4, 5},
		{"none of the five in no cell", -1, 5},
	} {
		expectNoGo(t, x.name, g, list{x.cell}, list{x.way})
		if l, e := judgeGo(g, list{x.cell}, list{x.way}); e != api.ErrArg {
			t.Errorf("%s: the judge returns %v, %d", x.name, l, e)
		}
	}
}

// TestAllDirections has each direction, and numbers that are none, from each cell, and numbers that are none.
func TestAllDirections(t *testing.T) {
	for _, g := range samples(t) {
		for _, cell := range append(numbers(-g.W-2, g.W*g.H+2*g.W+4), absent...) {
			for _, way := range append(numbers(0, 5), none...) {
				want, e := judgeGo(g, list{cell}, list{way})
				if e != api.OK {
					expectNoGo(t, "direction", g, list{cell}, list{way})
					expectNoWalk(t, "direction", g, list{cell}, lists{{way}})
					continue
				}
				expectGo(t, "direction", g, list{cell}, list{way}, want)
				expectWalk(t, "direction", g, list{cell}, lists{{way}}, lists{{cell}, want})
			}
		}
	}
}

func TestNumbersOfElements(t *testing.T) {
	g := open(3, 3)
	for many := range 6 {
		for others := range 6 {
			from, to, ways := numbers(0, many), numbers(0, others), make(list, others)
			if many == others {
				expectWays(t, "as many", g, from, to, ways)
				expectGo(t, "as many", g, from, ways, from)
				expectWalk(t, "as many", g, from, lists{ways}, lists{from, from})
				continue
			}
			expectNoWays(t, "not as many", g, from, to)
			expectNoGo(t, "not as many", g, from, ways)
			expectNoWalk(t, "not as many", g, from, lists{ways})
			expectNoWalk(t, "not as many behind", g, from, lists{make(list, many), ways, make(list, many)})
		}
	}
	room := numbers(0, 4)
	expectNoWays(t, "room for more", g, room, room[:3])
	expectNoGo(t, "room for more", g, room, make(list, 4)[:3])
	expectNoWays(t, "room for more before", g, room[:3], room)
	expectNoGo(t, "room for more before", g, room[:3], make(list, 4))
}

// TestOneWrongElement has one of many that goes nowhere, at each place.
func TestOneWrongElement(t *testing.T) {
	g := parse(t, "....>", ".#...", ".....")
	cells := list{0, 1, 2, 3, 5, 7, 8, 9, 10, 11, 12, 13, 14}
	for wrong := range cells {
		for _, to := range append(list{6, 14 - cells[wrong]}, absent...) {
			there := slices.Clone(cells)
			there[wrong] = to
			want, e := judgeWays(g, cells, there)
			if e == api.OK {
				expectWays(t, "one right", g, cells, there, want)
				continue
			}
			expectNoWays(t, "one wrong", g, cells, there)
			expectNoWays(t, "one wrong before", g, there, cells)
		}
		for _, way := range none {
			ways := make(list, len(cells))
			ways[wrong] = way
			expectNoGo(t, "one wrong", g, cells, ways)
			expectNoWalk(t, "one wrong", g, cells, lists{make(list, len(cells)), ways})
		}
		for _, cell := range append(list{6, 15}, absent...) {
			gone := slices.Clone(cells)
			gone[wrong] = cell
			expectNoGo(t, "one gone", g, gone, make(list, len(cells)))
			expectNoWays(t, "one gone", g, gone, gone)
			expectNoWalk(t, "one gone", g, gone, lists{make(list, len(cells))})
		}
	}
}

func TestWalk(t *testing.T) {
	g := parse(t,
		"..>", // 0 to 2
		"#..") // 3 to 5
	for _, x := range []struct {
		name  string
		cells list
		l     lists
		want  lists
	}{
		{"no robots, no list", nil, nil, lists{{}}},
		{"no robots, one list", nil, lists{{}}, lists{{}, {}}},
		{"no robots, several lists", nil, lists{{}, nil, {}}, lists{{}, {}, {}, {}}},
		{"no list", list{0, 5}, nil, lists{{0, 5}}},
		{"no list, cells from which nobody goes", list{3, -1, 6, math.MaxInt}, nil, lists{{3, -1, 6, math.MaxInt}}},
		{"no list, several in one cell", list{1, 1}, nil, lists{{1, 1}}},
		{"one list", list{0, 5}, lists{{2, 4}}, lists{{0, 5}, {1, 4}}},
		{"one list that stays", list{0, 5}, lists{{0, 0}}, lists{{0, 5}, {0, 5}}},
		{"several lists", list{0, 5}, lists{{2, 0}, {3, 1}, {0, 0}}, lists{{0, 5}, {1, 5}, {4, 2}, {4, 2}}},
		{"there and back", list{0}, lists{{2}, {4}, {2}, {4}}, lists{{0}, {1}, {0}, {1}, {0}}},
		{"a round", list{1, 5}, lists{{2, 4}, {0, 1}, {0, 0}}, lists{{1, 5}, {2, 4}, {2, 1}, {2, 1}}},
		{"several meet and part", list{1, 5}, lists{{3, 4}, {1, 2}}, lists{{1, 5}, {4, 4}, {1, 5}}},
	} {
		expectWalk(t, x.name, g, x.cells, x.l, x.want)
		if all, e := judgeWalk(g, x.cells, x.l); e != api.OK || !same(all, x.want) {
			t.Errorf("%s: the judge returns %v, %d", x.name, all, e)
		}
	}
	for _, x := range []struct {
		name  string
		cells list
		l     lists
	}{
		{"an error at once", list{0, 5}, lists{{1, 0}}},
		{"an error at once, right lists behind", list{0, 5}, lists{{1, 0}, {0, 0}, {2, 4}}},
		{"an error behind a list", list{0, 5}, lists{{2, 0}, {1, 0}}},
		{"an error behind several lists", list{0, 5}, lists{{2, 0}, {3, 1}, {0, 0}, {0, 1}}},
		{"an error between lists", list{0, 5}, lists{{2, 0}, {1, 0}, {0, 0}}},
		{"a direction that was possible before", list{0}, lists{{2}, {2}, {4}}},
		{"a direction that would be possible later", list{0}, lists{{3}, {2}}},
		{"several errors", list{0, 5}, lists{{2, 0}, {1}, {7, 7}}},
		{"the first error in the last robot", list{0, 5}, lists{{2, 0}, {0, 2}}},
		{"too few directions", list{0, 5}, lists{{0, 0}, {0}}},
		{"too many directions", list{0, 5}, lists{{0, 0}, {0, 0, 0}}},
		{"no directions", list{0, 5}, lists{{0, 0}, nil}},
		{"directions without robots", nil, lists{{}, {0}}},
		{"none of the five", list{0, 5}, lists{{0, 0}, {0, 5}}},
		{"in a wall", list{3}, lists{{0}}},
		{"in no cell", list{-1}, lists{{0}}},
	} {
		expectNoWalk(t, x.name, g, x.cells, x.l)
		if all, e := judgeWalk(g, x.cells, x.l); e != api.ErrArg {
			t.Errorf("%s: the judge returns %v, %d", x.name, all, e)
		}
	}
}

// TestErrorAtEachPlace has walks of which each list in turn is wrong.
func TestErrorAtEachPlace(t *testing.T) {
	g := open(9, 2)
	for length := 1; length < 9; length++ {
		for wrong := range length {
			for _, way := range []int{api.North, api.West, 5, -1} {
				l := make(lists, length)
				for i := range l {
					l[i] = list{api.East, api.Stay}
				}
				expectWalkOfJudge(t, g, list{0, 9}, l)
				l[wrong] = list{way, way}
				expectNoWalk(t, "wrong", g, list{0, 9}, l)
				l[wrong] = list{api.East, way}
				expectWalkOfJudge(t, g, list{0, 9}, l)
			}
		}
	}
}

// expectWalkOfJudge reports a Walk that differs from the judge's.
func expectWalkOfJudge(t *testing.T, g api.Grid, cells list, l lists) {
	t.Helper()
	if want, e := judgeWalk(g, cells, l); e == api.OK {
		expectWalk(t, "judged", g, cells, l, want)
	} else {
		expectNoWalk(t, "judged", g, cells, l)
	}
}

func TestNear(t *testing.T) {
	g := parse(t,
		"..>.", // 0 to 3
		"#.v.", // 4 to 7
		"<^SC") // 8 to 11
	for _, x := range []struct {
		name  string
		cells list
		want  pairs
	}{
		{"no robots", nil, nil},
		{"one robot", list{5}, nil},
		{"the example", list{0, 1, 3}, pairs{{0, 1}}},
		{"adjacent columns", list{5, 6}, pairs{{0, 1}}},
		{"adjacent columns, the other way round", list{6, 5}, pairs{{0, 1}}},
		{"adjacent rows", list{1, 5}, pairs{{0, 1}}},
		{"adjacent rows, the other way round", list{5, 1}, pairs{{0, 1}}},
		{"the first row's ends", list{0, 1, 2, 3}, pairs{{0, 1}, {1, 2}, {2, 3}}},
		{"the last row", list{8, 9, 10, 11}, pairs{{0, 1}, {1, 2}, {2, 3}}},
		{"a column", list{3, 7, 11}, pairs{{0, 1}, {1, 2}}},
		{"the end of a row and the beginning of the next one", list{3, 4}, nil},
		{"the beginning of a row and the end of the one above", list{8, 7}, nil},
		{"diagonal, down to the right", list{1, 6}, nil},
		{"diagonal, down to the left", list{2, 5}, nil},
		{"diagonal, up", list{6, 1}, nil},
		{"two columns apart", list{0, 2}, nil},
		{"two rows apart", list{1, 9}, nil},
		{"a row's ends", list{0, 3}, nil},
		{"a column's ends", list{0, 8}, nil},
		{"two in one cell", list{5, 5}, nil},
		{"two in one cell beside a third", list{5, 5, 6}, pairs{{0, 2}, {1, 2}}},
		{"two in one cell beside a first", list{6, 5, 5}, pairs{{0, 1}, {0, 2}}},
		{"two in each of two cells", list{5, 6, 5, 6}, pairs{{0, 1}, {0, 3}, {1, 2}, {2, 3}}},
		{"walls", list{4, 0, 5, 8}, pairs{{0, 1}, {0, 2}, {0, 3}}},
		{"two in a wall, beside a wall", list{4, 4, 5}, pairs{{0, 2}, {1, 2}}},
		{"against a one-way cell", list{2, 1}, pairs{{0, 1}}},
		{"beside a one-way cell", list{6, 7, 5, 2}, pairs{{0, 1}, {0, 2}, {0, 3}}},
		{"all around", list{6, 2, 7, 10, 5}, pairs{{0, 1}, {0, 2}, {0, 3}, {0, 4}}},
		{"all around, the middle last", list{5, 10, 7, 2, 6}, pairs{{0, 4}, {1, 4}, {2, 4}, {3, 4}}},
		{"all around, the middle between", list{10, 5, 6, 7, 2}, pairs{{0, 2}, {1, 2}, {2, 3}, {2, 4}}},
		{"a square", list{1, 2, 5, 6}, pairs{{0, 1}, {0, 2}, {1, 3}, {2, 3}}},
		{"a square in no order", list{6, 1, 2, 5}, pairs{{0, 2}, {0, 3}, {1, 2}, {1, 3}}},
		{"no cell", list{-1, 0}, nil},
		{"no cell behind", list{11, 12}, nil},
		{"no cell above", list{1, -3}, nil},
		{"no cell below", list{9, 13}, nil},
		{"no cells side by side", list{-1, -2, 12, 13, 16, 17}, nil},
		{"no cells between others", list{-1, 5, 12, -4, 6, 99, 7}, pairs{{1, 4}, {4, 6}}},
		{"two in no cell", list{-1, -1, 12, 12}, nil},
	} {
		expectNear(t, x.name, g, x.cells, x.want)
		if l := judgeNear(g, x.cells); !slices.Equal(l, x.want) {
			t.Errorf("%s: the judge returns %v", x.name, l)
		}
	}
}

// TestNearInNarrowGrids has grids in which the cells of adjacent columns and of adjacent rows have the same numbers.
func TestNearInNarrowGrids(t *testing.T) {
	expectNear(t, "one cell", open(1, 1), list{0, 0, 1, -1}, nil)
	expectNear(t, "one column", open(1, 4), list{0, 1, 2, 3, 4, -1}, pairs{{0, 1}, {1, 2}, {2, 3}})
	expectNear(t, "one column, from below", open(1, 4), list{3, 2, 1, 0}, pairs{{0, 1}, {1, 2}, {2, 3}})
	expectNear(t, "one row", open(4, 1), list{0, 1, 2, 3, 4, -1}, pairs{{0, 1}, {1, 2}, {2, 3}})
	expectNear(t, "two columns", open(2, 3), list{0, 1, 2, 3, 4, 5}, pairs{{0, 1}, {0, 2}, {1, 3}, {2, 3}, {2, 4}, {3, 5}, {4, 5}})
	expectNear(t, "two columns, only ends and beginnings", open(2, 3), list{1, 2}, nil)
}

// TestNearOfAllPairs has two robots in all cells of grids, and in numbers that are no cells.
func TestNearOfAllPairs(t *testing.T) {
	for _, g := range samples(t) {
		cells := append(numbers(-g.W-2, g.W*g.H+2*g.W+4), absent...)
		for _, a := range cells {
			for _, b := range cells {
				want := pairs(nil)
				if adjacent(g, a, b) {
					want = pairs{{0, 1}}
				}
				expectNear(t, "pair", g, list{a, b}, want)
			}
		}
	}
}

// all yields all lists of some length of numbers from first to last.
func all(length, first, last int, yield func(l list)) {
	l := make(list, length)
	var fill func(at int)
	fill = func(at int) {
		if at == length {
			yield(l)
			return
		}
		for n := first; n <= last; n++ {
			l[at] = n
			fill(at + 1)
		}
	}
	fill(0)
}

// TestAllFewRobots has up to five robots in all cells of small grids, and beside them.
func TestAllFewRobots(t *testing.T) {
	for _, g := range []api.Grid{open(1, 1), open(2, 1), open(1, 3), open(3, 1), open(2, 2), parse(t, "#>", ".C"), open(3, 2), open(2, 3)} {
		for many := range 6 {
			all(many, -1, g.W*g.H, func(cells list) {
				expectNear(t, "few", g, cells, judgeNear(g, cells))
			})
		}
	}
}

// TestAllShortWalks has two robots that go in all directions, two times, in a small grid.
func TestAllShortWalks(t *testing.T) {
	g := parse(t, "..", "<#", ".v")
	all(2, -1, 6, func(cells list) {
		cells = slices.Clone(cells)
		all(4, 0, 4, func(ways list) {
			expectWalkOfJudge(t, g, cells, lists{ways[:2], ways[2:]})
		})
	})
}

// chosenGrid returns a grid as r chooses.
func chosenGrid(r *rand.Rand) api.Grid {
	w, h := 1+r.Intn(9), 1+r.Intn(9)
	cells := make([]byte, w*h)
	floors := r.Intn(12)
	for i := range cells {
		cells[i] = '.'
		if r.Intn(12) >= floors {
			cells[i] = letters[r.Intn(len(letters))]
		}
	}
	return api.Grid{W: w, H: h, Cells: string(cells)}
}

// chosenCells returns cells that are not walls, as r chooses; none if there are only walls.
func chosenCells(r *rand.Rand, g api.Grid, many int) list {
	var floor, l list
	for cell := range g.W * g.H {
		if g.Cells[cell] != '#' {
			floor = append(floor, cell)
		}
	}
	if len(floor) == 0 {
		return nil
	}
	for range many {
		l = append(l, floor[r.Intn(len(floor))])
	}
	return l
}

// chosenStep returns a possible direction from each cell, and the cells to which they lead, as r chooses.
func chosenStep(r *rand.Rand, g api.Grid, cells list) (ways, there list) {
	for _, cell := range cells {
		possible := grid.Ways(g, cell)
		way := possible[r.Intn(len(possible))]
		to, _ := goes(g, cell, way)
		ways, there = append(ways, way), append(there, to)
	}
	return ways, there
}

// chosenWalk returns lists of possible directions, and the cells before and after each, as r chooses.
func chosenWalk(r *rand.Rand, g api.Grid, cells list, length int) (l, there lists) {
	there = lists{cells}
	for range length {
		ways, next := chosenStep(r, g, there[len(there)-1])
		l, there = append(l, ways), append(there, next)
	}
	return l, there
}

// TestDirectionsLeadToTheCells is the first part of the theorem, for steps that are possible.
func TestDirectionsLeadToTheCells(t *testing.T) {
	r := rand.New(rand.NewSource(1))
	for range 10000 {
		g := chosenGrid(r)
		from := chosenCells(r, g, r.Intn(12))
		ways, to := chosenStep(r, g, from)
		expectGo(t, "chosen", g, from, ways, to)
		l, e := moves.Ways(g, from, to)
		if e != api.OK || !slices.Equal(l, ways) {
			t.Fatalf("Ways(%v, %v, %v) = %v, %d, want %v", g, from, to, l, e, ways)
		}
		expectGo(t, "directions that Ways returned", g, from, l, to)
		expectWalk(t, "directions that Ways returned", g, from, lists{l}, lists{from, to})
	}
}

// TestAnyCells is the first part of the theorem, for cells between which there may be no step.
func TestAnyCells(t *testing.T) {
	r := rand.New(rand.NewSource(2))
	count := map[api.Errno]int{}
	for range 20000 {
		g := chosenGrid(r)
		from := chosenCells(r, g, r.Intn(4))
		_, to := chosenStep(r, g, from)
		if len(to) > 0 && r.Intn(2) == 0 {
			to[r.Intn(len(to))] = r.Intn(g.W*g.H+2) - 1
		}
		want, code := judgeWays(g, from, to)
		l, e := moves.Ways(g, from, to)
		if e != code || !slices.Equal(l, want) {
			t.Fatalf("Ways(%v, %v, %v) = %v, %d, want %v, %d", g, from, to, l, e, want, code)
		}
		if e == api.OK {
			expectGo(t, "any", g, from, l, to)
		}
		count[e]++
	}
	if count[api.OK] < 1000 || count[api.ErrArg] < 1000 {
		t.Errorf("errors: %v", count)
	}
}

func TestChosenWalks(t *testing.T) {
	r := rand.New(rand.NewSource(3))
	count := map[api.Errno]int{}
	for range 5000 {
		g := chosenGrid(r)
		cells := chosenCells(r, g, r.Intn(6))
		l, there := chosenWalk(r, g, cells, r.Intn(12))
		expectWalk(t, "chosen", g, cells, l, there)
		for i := 1; i < len(there); i++ {
			expectWays(t, "chosen", g, there[i-1], there[i], l[i-1])
		}
		if len(l) > 0 && len(cells) > 0 {
			l[r.Intn(len(l))][r.Intn(len(cells))] = r.Intn(7) - 1
		}
		expectWalkOfJudge(t, g, cells, l)
		_, e := judgeWalk(g, cells, l)
		count[e]++
	}
	if count[api.OK] < 500 || count[api.ErrArg] < 500 {
		t.Errorf("errors: %v", count)
	}
}

// TestAWalkCanBeDivided is the second part of the theorem.
func TestAWalkCanBeDivided(t *testing.T) {
	r := rand.New(rand.NewSource(4))
	count := map[api.Errno]int{}
	for range 3000 {
		g := chosenGrid(r)
		cells := chosenCells(r, g, r.Intn(5))
		l, _ := chosenWalk(r, g, cells, r.Intn(9))
		if len(l) > 0 && len(cells) > 0 && r.Intn(2) == 0 {
			l[r.Intn(len(l))][r.Intn(len(cells))] = r.Intn(7) - 1
		}
		whole, e := moves.Walk(g, cells, l)
		count[e]++
		for at := range len(l) + 1 {
			divided, code := walkDivided(g, cells, l[:at], l[at:])
			if code != e || !same(divided, whole) {
				t.Fatalf("Walk(%v, %v, %v) = %v, %d, divided at %d: %v, %d", g, cells, l, whole, e, at, divided, code)
			}
		}
	}
	if count[api.OK] < 500 || count[api.ErrArg] < 300 {
		t.Errorf("errors: %v", count)
	}
}

// walkDivided returns what Walk returns of two walks, of which the second one begins where the first one ends.
func walkDivided(g api.Grid, cells list, first, second lists) (lists, api.Errno) {
	before, e := moves.Walk(g, cells, first)
	if e != api.OK {
		return nil, e
	}
	behind, e := moves.Walk(g, before[len(before)-1], second)
	if e != api.OK {
		return nil, e
	}
	return append(before, behind[1:]...), api.OK
}

// TestChosenNear has robots of which some are in no cell, or in a wall.
func TestChosenNear(t *testing.T) {
	r := rand.New(rand.NewSource(5))
	found := 0
	for range 10000 {
		g := chosenGrid(r)
		cells := make(list, r.Intn(30))
		for i := range cells {
			cells[i] = r.Intn(g.W*g.H+2*g.W) - g.W
		}
		want := judgeNear(g, cells)
		expectNear(t, "chosen", g, cells, want)
		found += len(want)
	}
	if found < 50000 {
		t.Errorf("only %d pairs", found)
	}
}

// TestAdjacencyIsSymmetric is the third part of the theorem: whichever robot is the first one, the same are adjacent.
func TestAdjacencyIsSymmetric(t *testing.T) {
	r := rand.New(rand.NewSource(6))
	for range 3000 {
		g := chosenGrid(r)
		cells := chosenCells(r, g, r.Intn(20))
		order := r.Perm(len(cells))
		mixed := make(list, len(cells))
		for i, at := range order {
			mixed[at] = cells[i]
		}
		var want pairs
		for _, p := range moves.Near(g, cells) {
			a, b := order[p[0]], order[p[1]]
			want = append(want, [2]int{min(a, b), max(a, b)})
		}
		slices.SortFunc(want, func(a, b [2]int) int { return slices.Compare(a[:], b[:]) })
		expectNear(t, "mixed", g, mixed, want)
	}
	for _, g := range samples(t) {
		for a := range g.W * g.H {
			for b := range g.W * g.H {
				if !slices.Equal(moves.Near(g, list{a, b}), moves.Near(g, list{b, a})) {
					t.Errorf("%d and %d are adjacent in one order only in %v", a, b, g)
				}
			}
		}
	}
}

// TestOrderOfPairs has many robots in few cells, in no order.
func TestOrderOfPairs(t *testing.T) {
	r := rand.New(rand.NewSource(7))
	for range 300 {
		g := open(1+r.Intn(3), 1+r.Intn(3))
		l := moves.Near(g, chosenCells(r, g, 40))
		for i, p := range l {
			if p[0] >= p[1] {
				t.Fatalf("the pair %v has not the lesser index first", p)
			}
			if i > 0 && slices.Compare(l[i-1][:], p[:]) >= 0 {
				t.Fatalf("%v is before %v", l[i-1], p)
			}
		}
	}
}

func TestResultsShareNothing(t *testing.T) {
	g := open(4, 4)
	whole := lists{{0, 1, 5, 77, 78}, {1, 1, 6, 77, 78}, {2, 0, 2, 77, 78}, {0, 0, 0, 77, 78}}
	was := clone(whole)
	cells, to, ways, stay := whole[0][:3], whole[1][:3], whole[2][:3], whole[3][:3]
	results := func() lists {
		a, e1 := moves.Ways(g, cells, to)
		b, e2 := moves.Go(g, cells, ways)
		c, e3 := moves.Go(g, cells, stay)
		d, e4 := moves.Walk(g, cells, lists{stay, ways, stay})
		none, e5 := moves.Walk(g, cells, nil)
		if e1 != api.OK || e2 != api.OK || e3 != api.OK || e4 != api.OK || e5 != api.OK || len(d) != 4 || len(none) != 1 {
			t.Fatal(e1, e2, e3, e4, e5, d, none)
		}
		return append(append(lists{a, b, c}, d...), none...)
	}
	first, second := results(), results()
	kept := clone(second)
	if !same(first, kept) || !same(whole, was) {
		t.Fatalf("the results are %v and %v, the arguments became %v", first, kept, whole)
	}
	// Each list alone is overwritten, so that no two may be one.
	for i, l := range first {
		others := clone(first)
		for k := range l[:cap(l)] {
			l[:cap(l)][k] = 99
		}
		for j := range first {
			if j != i && !slices.Equal(first[j], others[j]) {
				t.Errorf("the results %d and %d share memory", i, j)
			}
		}
	}
	if !same(whole, was) || !same(second, kept) {
		t.Error("a result shares memory with an argument or with another result")
	}
	for _, l := range whole {
		clear(l)
	}
	if !same(second, kept) {
		t.Error("a result shares memory with an argument")
	}
}

// TestFailuresChangeNothing has errors behind elements and lists that have none.
func TestFailuresChangeNothing(t *testing.T) {
	g := open(3, 3)
	cells, to, ways := list{0, 4, 8}, list{1, 5, 8}, list{2, 2, 2}
	l := lists{{2, 2, 0}, {2, 4, 1}, {2, 0, 0}}
	was, given := clone(lists{cells, to, ways}), clone(l)
	expectNoGo(t, "the last one", g, cells, ways)
	expectNoWalk(t, "the last list", g, cells, l)
	expectNoWays(t, "the last one", g, cells, list{1, 5, 0})
	if !same(was, lists{cells, to, ways}) || !same(l, given) {
		t.Errorf("the arguments became %v, %v, %v, %v", cells, to, ways, l)
	}
}

// TestNearSharesNothing has pairs that are overwritten.
func TestNearSharesNothing(t *testing.T) {
	g, cells := open(3, 3), list{0, 1, 2, 5, 8, 77, 78}
	first, second := moves.Near(g, cells[:5]), moves.Near(g, cells[:5])
	want := pairs{{0, 1}, {1, 2}, {2, 3}, {3, 4}}
	clear(first[:cap(first)])
	if !slices.Equal(second, want) || !slices.Equal(cells, list{0, 1, 2, 5, 8, 77, 78}) {
		t.Errorf("Near returns %v of %v", second, cells)
	}
	clear(cells)
	if !slices.Equal(second, want) {
		t.Error("a result shares memory with an argument")
	}
}

// TestArgumentsMayBeOneSlice has slices that share their elements.
func TestArgumentsMayBeOneSlice(t *testing.T) {
	g := open(5, 1)
	l := list{0, 1, 2, 3, 4}
	expectWays(t, "stay", g, l, l, list{0, 0, 0, 0, 0})
	expectWays(t, "overlap", g, l[:4], l[1:], list{2, 2, 2, 2})
	expectWays(t, "overlap, back", g, l[1:], l[:4], list{4, 4, 4, 4})
	ways := list{2, 2}
	expectGo(t, "cells that are directions", g, ways, ways, list{3, 3})
	expectWalk(t, "cells that are directions", g, ways, lists{ways, ways}, lists{{2, 2}, {3, 3}, {4, 4}})
	if !slices.Equal(l, list{0, 1, 2, 3, 4}) || !slices.Equal(ways, list{2, 2}) {
		t.Errorf("the arguments became %v and %v", l, ways)
	}
}

func TestEmptySlicesAreLikeNil(t *testing.T) {
	empty := lists{nil, {}}
	for _, g := range samples(t) {
		for _, a := range empty {
			for _, b := range empty {
				expectWays(t, "empty", g, a, b, nil)
				expectGo(t, "empty", g, a, b, nil)
				expectWalk(t, "empty", g, a, lists{b, a}, lists{nil, {}, nil})
			}
			expectWalk(t, "no list", g, a, nil, lists{nil})
			expectWalk(t, "empty lists", g, a, lists{}, lists{{}})
			expectNear(t, "empty", g, a, nil)
			expectNoWays(t, "empty and one", g, a, list{0})
			expectNoWays(t, "one and empty", g, list{0}, a)
			expectNoGo(t, "empty and one", g, a, list{0})
			expectNoGo(t, "one and empty", g, list{0}, a)
		}
	}
}

func TestAnswersDependOnArgumentsAlone(t *testing.T) {
	r := rand.New(rand.NewSource(8))
	for range 50 {
		g := chosenGrid(r)
		cells := chosenCells(r, g, r.Intn(20))
		l, there := chosenWalk(r, g, cells, 5)
		near := judgeNear(g, cells)
		for range 20 {
			expectWalk(t, "again", g, cells, l, there)
			expectWays(t, "again", g, there[0], there[1], l[0])
			expectGo(t, "again", g, there[0], l[0], there[1])
			expectNear(t, "again", g, cells, near)
		}
	}
}

func TestCallsAtTheSameTime(t *testing.T) {
	r := rand.New(rand.NewSource(9))
	g := parse(t, "..>.", "#.v.", "<^SC")
	cells := chosenCells(r, g, 20)
	l, there := chosenWalk(r, g, cells, 20)
	near := judgeNear(g, cells)
	var group sync.WaitGroup
	for range 8 {
		group.Go(func() {
			for range 200 {
				expectWalk(t, "at the same time", g, cells, l, there)
				expectWays(t, "at the same time", g, there[3], there[4], l[3])
				expectGo(t, "at the same time", g, there[3], l[3], there[4])
				expectNear(t, "at the same time", g, cells, near)
			}
		})
	}
	group.Wait()
}

// TestWrongGrids has grids that are not valid: nothing is promised of them, but that nothing panics is as well.
func TestWrongGrids(t *testing.T) {
	cells := append(list{0, 1, 2, 3, 4, 5, 6}, absent...)
	for _, w := range []int{math.MinInt, -1, 0, 1, 2, 3, 100, math.MaxInt} {
		for _, h := range []int{math.MinInt, -1, 0, 1, 2, math.MaxInt} {
			for _, text := range []string{"", ".", "....", "#?\x00\xff.\n", "世界"} {
				g := api.Grid{W: w, H: h, Cells: text}
				moves.Near(g, cells)
				for _, cell := range cells {
					for way := -1; way <= 5; way++ {
						moves.Go(g, list{cell}, list{way})
						moves.Walk(g, list{cell}, lists{{way}, {way}})
					}
					for _, to := range cells {
						moves.Ways(g, list{cell}, list{to})
					}
				}
			}
		}
	}
}

// TestLargeGrid has as many robots as a grid has cells, and more.
func TestLargeGrid(t *testing.T) {
	g := open(most, most)
	cells := numbers(0, most*most)
	ways, back, right := make(list, len(cells)), make(list, len(cells)), make(list, len(cells))
	var near pairs
	for i := range cells {
		ways[i], back[i], right[i] = api.East, api.West, i+1
		if i%most == most-1 {
			ways[i], back[i], right[i] = api.South, api.North, i+most
		} else {
			near = append(near, [2]int{i, i + 1})
		}
		if i < most*(most-1) {
			near = append(near, [2]int{i, i + most})
		}
	}
	last := len(cells) - 1
	ways[last], back[last], right[last] = api.Stay, api.Stay, last
	expectWays(t, "large", g, cells, right, ways)
	expectGo(t, "large", g, cells, ways, right)
	expectWalk(t, "large", g, cells, lists{ways, back, ways}, lists{cells, right, cells, right})
	expectNear(t, "large", g, cells, near)
}

// TestManyRobots would take long if each robot were compared with each other one.
func TestManyRobots(t *testing.T) {
	const many = 1 << 20
	g := open(most, 3)
	// All are in the first row but one, which is below the first cell.
	cells := make(list, many)
	for i := range cells {
		cells[i] = 3 + i%2*2
	}
	cells[many-1] = most + 3
	var want pairs
	for i := 0; i < many-1; i += 2 {
		want = append(want, [2]int{i, many - 1})
	}
	expectNear(t, "many", g, cells, want)
	for i := range cells {
		cells[i] = -1 - i
	}
	expectNear(t, "many in no cell", g, cells, nil)
}

// TestLongWalk has very many ticks.
func TestLongWalk(t *testing.T) {
	const long = 300000
	g := open(2, 1)
	l, want := make(lists, long), lists{{0, 1}}
	for i := range l {
		l[i] = lists{{2, 4}, {4, 2}}[i%2]
		want = append(want, lists{{1, 0}, {0, 1}}[i%2])
	}
	expectWalk(t, "long", g, list{0, 1}, l, want)
	l[long-1] = list{0, 5}
	expectNoWalk(t, "long", g, list{0, 1}, l)
}

func TestImports(t *testing.T) {
	f, err := parser.ParseFile(token.NewFileSet(), "moves.go", nil, parser.ImportsOnly)
	if err != nil {
		t.Fatal(err)
	}
	for _, i := range f.Imports {
		if !slices.Contains([]string{`"iter"`, `"slices"`, `"tugger/api"`, `"tugger/grid"`}, i.Path.Value) {
			t.Error("moves imports", i.Path.Value)
		}
	}
}

func BenchmarkWays(b *testing.B) {
	g, cells := open(most, most), numbers(0, api.MostRobots)
	for b.Loop() {
		moves.Ways(g, cells, cells)
	}
}

func BenchmarkWalk(b *testing.B) {
	r := rand.New(rand.NewSource(10))
	g := open(most, most)
	cells := chosenCells(r, g, api.MostRobots)
	l, _ := chosenWalk(r, g, cells, 100)
	for b.Loop() {
		moves.Walk(g, cells, l)
	}
}

func BenchmarkNear(b *testing.B) {
	r := rand.New(rand.NewSource(11))
	g := open(64, 64)
	cells := chosenCells(r, g, api.MostRobots)
	for b.Loop() {
		moves.Near(g, cells)
	}
}
