package dist_test

import (
	"go/parser"
	"go/token"
	"math"
	"math/rand"
	"slices"
	"strings"
	"sync"
	"testing"

	"tugger/api"
	"tugger/dist"
	"tugger/grid"
)

const (
	most    = api.MostSide
	letters = ".#SC><^v"
)

// absent are numbers that are no cells of any grid.
var absent = []int{math.MinInt, math.MinInt + 1, -most, -2, -1, most * most, most*most + 1, math.MaxInt - 1, math.MaxInt}

// parse returns the grid of a text, which must be one.
func parse(t testing.TB, s string) api.Grid {
	t.Helper()
	g, e := grid.Parse(s)
	if e != api.OK {
		t.Fatalf("Parse(%q): %d", s, e)
	}
	return g
}

// field returns the distances to a cell that exists and is not a wall.
func field(t *testing.T, g api.Grid, to int, blocked []int) []int {
	t.Helper()
	l, e := dist.Field(g, to, blocked)
	if e != api.OK || len(l) != len(g.Cells) {
		t.Fatalf("Field(%.80v, %d, %v) returns %d distances and %d", g, to, blocked, len(l), e)
	}
	return l
}

// expectAll reports a field other than wanted, and each Far that does not agree with it.
func expectAll(t *testing.T, g api.Grid, to int, blocked, want []int) {
	t.Helper()
	if l := field(t, g, to, blocked); !slices.Equal(l, want) {
		t.Errorf("Field(%.80v, %d, %v) = %v, want %v", g, to, blocked, l, want)
	}
	for from := range g.Cells {
		if far := dist.Far(g, from, to, blocked); far != want[from] {
			t.Errorf("Far(%.80v, %d, %d, %v) = %d, want %d", g, from, to, blocked, far, want[from])
		}
	}
}

// chosen returns a grid of the given sides with letters among some, and a list of some of its cells, as r chooses.
func chosen(r *rand.Rand, w, h int, among string) (api.Grid, []int) {
	b := make([]byte, w*h)
	for i := range b {
		b[i] = among[r.Intn(len(among))]
	}
	l := make([]int, r.Intn(len(b)/4+2))
	for i := range l {
		l[i] = r.Intn(len(b))
	}
	return api.Grid{W: w, H: h, Cells: string(b)}, l
}

// sample is a valid grid with blocked cells.
type sample struct {
	g       api.Grid
	blocked []int
}

// samples returns grids of many sides, the same ones each time.
func samples() []sample {
	r := rand.New(rand.NewSource(1))
	var l []sample
	for _, among := range []string{"...S", "....C#", letters + "....", "><^v", "....>^#"} {
		for w := 1; w <= 6; w++ {
			for h := 1; h <= 6; h++ {
				for range 3 {
					g, blocked := chosen(r, w, h, among)
					l = append(l, sample{g, nil}, sample{g, blocked})
				}
			}
		}
	}
	return l
}

// step says to which cell a direction leads, by columns and rows; a wall, a blocked cell and no cell is none.
func step(g api.Grid, cell, way int, blocked []int) (int, bool) {
	x, y, own := cell%g.W, cell/g.W, byte(0)
	switch way {
	case api.North:
		y, own = y-1, '^'
	case api.East:
		x, own = x+1, '>'
	case api.South:
		y, own = y+1, 'v'
	case api.West:
		x, own = x-1, '<'
	}
	from := g.Cells[cell]
	if from == '#' || strings.IndexByte("^>v<", from) >= 0 && from != own || x < 0 || x >= g.W || y < 0 || y >= g.H {
		return 0, false
	}
	to := y*g.W + x
	return to, g.Cells[to] != '#' && !slices.Contains(blocked, to)
}

// endless is more than each distance; it stands where there is no way.
const endless = math.MaxInt / 2

// relaxed returns the distances to a cell that is not a wall, found by taking steps until none makes one less.
func relaxed(g api.Grid, to int, blocked []int) []int {
	l := make([]int, len(g.Cells))
	for i := range l {
		l[i] = endless
	}
	l[to] = 0
	for again := true; again; {
		again = false
		for cell := range l {
			for way := api.North; way <= api.West; way++ {
				if next, ok := step(g, cell, way, blocked); ok && l[next]+1 < l[cell] {
					l[cell], again = l[next]+1, true
				}
			}
		}
	}
	for i, far := range l {
		if far == endless {
			l[i] = -1
		}
	}
	return l
}

// ordered returns a distance as a number that is greater the further it is: that of no way is greatest.
func ordered(far int) int {
	if far < 0 {
		return endless
	}
	return far
}

func TestExampleOfTheChapter(t *testing.T) {
	g := parse(t, "..#\n")
	if far := dist.Far(g, 0, 1, nil); far != 1 {
		t.Error("from the first cell to the second one:", far)
	}
	if far := dist.Far(g, 0, 2, nil); far != -1 {
		t.Error("from the first cell to the third one:", far)
	}
}

func TestDistances(t *testing.T) {
	for _, c := range []struct {
		s             string
		to            int
		blocked, want []int
	}{
		{".....\n", 0, nil, []int{0, 1, 2, 3, 4}},
		{".....\n", 2, nil, []int{2, 1, 0, 1, 2}},
		{".....\n", 4, nil, []int{4, 3, 2, 1, 0}},
		{".\n.\n.\n.\n", 1, nil, []int{1, 0, 1, 2}},
		{"...\n...\n...\n", 4, nil, []int{2, 1, 2, 1, 0, 1, 2, 1, 2}},
		{"...\n...\n...\n", 0, nil, []int{0, 1, 2, 1, 2, 3, 2, 3, 4}},
		{"..\n..\n", 1, nil, []int{1, 0, 2, 1}},
		{"SC.\nCS.\n", 5, nil, []int{3, 2, 1, 2, 1, 0}},
		{".#.\n.#.\n...\n", 0, nil, []int{0, -1, 6, 1, -1, 5, 2, 3, 4}},
		{"..#..\n", 0, nil, []int{0, 1, -1, -1, -1}},
		{"..#..\n", 4, nil, []int{-1, -1, -1, 1, 0}},
		{".#\n#.\n", 0, nil, []int{0, -1, -1, -1}},
		{"...\n...\n...\n", 0, []int{1, 4}, []int{0, 1, 6, 1, 2, 5, 2, 3, 4}},
		{"....\n....\n", 3, []int{2}, []int{5, 4, 1, 0, 4, 3, 2, 1}},
		{"....\n....\n", 3, []int{2, 6}, []int{-1, -1, 1, 0, -1, -1, 2, 1}},
	} {
		expectAll(t, parse(t, c.s), c.to, c.blocked, c.want)
	}
}

func TestOneWayCellsAreEnteredButNotLeftAgainstTheirDirection(t *testing.T) {
	for _, c := range []struct {
		s    string
		to   int
		want []int
	}{
		{".>.\n", 0, []int{0, -1, -1}},
		{".>.\n", 1, []int{1, 0, 1}},
		{".>.\n", 2, []int{2, 1, 0}},
		{".<.\n", 0, []int{0, 1, 2}},
		{".<.\n", 1, []int{1, 0, 1}},
		{".<.\n", 2, []int{-1, -1, 0}},
		{".\n^\n.\n", 0, []int{0, 1, 2}},
		{".\n^\n.\n", 1, []int{1, 0, 1}},
		{".\n^\n.\n", 2, []int{-1, -1, 0}},
		{".\nv\n.\n", 0, []int{0, -1, -1}},
		{".\nv\n.\n", 1, []int{1, 0, 1}},
		{".\nv\n.\n", 2, []int{2, 1, 0}},
		// Each cell of a ring leads to the next one.
		{">>v\n^#v\n^<<\n", 0, []int{0, 7, 6, 1, -1, 5, 2, 3, 4}},
		{">>v\n^#v\n^<<\n", 1, []int{1, 0, 7, 2, -1, 6, 3, 4, 5}},
		// From the trap in the middle nothing leads on, but each neighbour leads into it.
		{"...\n.>#\n...\n", 4, []int{2, 1, 2, 1, 0, -1, 2, 1, 2}},
		{"...\n.>#\n...\n", 3, []int{1, 2, 3, 0, -1, -1, 1, 2, 3}},
		// A one-way cell at the end of its row does not lead to the next one.
		{".>\n..\n", 2, []int{1, -1, 0, 1}},
		{"..\n<.\n", 1, []int{1, 0, -1, 1}},
	} {
		expectAll(t, parse(t, c.s), c.to, nil, c.want)
	}
	g := parse(t, ".>.\n")
	if there, back := dist.Far(g, 0, 2, nil), dist.Far(g, 2, 0, nil); there != 2 || back != -1 {
		t.Error("there and back again:", there, back)
	}
}

func TestGoalsThatFieldRefuses(t *testing.T) {
	g := parse(t, "..#.\n#..S\n")
	for _, to := range append([]int{2, 4, 8, 9, 12}, absent...) {
		for _, blocked := range [][]int{nil, {}, {0}, {to}, {to, 3}} {
			if l, e := dist.Field(g, to, blocked); len(l) != 0 || e != api.ErrArg {
				t.Errorf("Field(%d, %v) = %v, %d", to, blocked, l, e)
			}
		}
	}
	walls := parse(t, "##\n##\n")
	for to := -1; to <= 4; to++ {
		if l, e := dist.Field(walls, to, nil); len(l) != 0 || e != api.ErrArg {
			t.Errorf("Field(walls, %d) = %v, %d", to, l, e)
		}
	}
}

func TestFarOfCellsThatDoNotExistOrAreWalls(t *testing.T) {
	g := parse(t, "..#.\n...S\n")
	wrong := append([]int{2, 8, 9, 12}, absent...)
	for _, cell := range wrong {
		for _, blocked := range [][]int{nil, {cell}, {0}} {
			for good := range 2 {
				if far := dist.Far(g, cell, good, blocked); far != -1 {
					t.Errorf("Far(%d, %d, %v) = %d", cell, good, blocked, far)
				}
				if far := dist.Far(g, good, cell, blocked); far != -1 {
					t.Errorf("Far(%d, %d, %v) = %d", good, cell, blocked, far)
				}
			}
			for _, other := range wrong {
				if far := dist.Far(g, cell, other, blocked); far != -1 {
					t.Errorf("Far(%d, %d, %v) = %d", cell, other, blocked, far)
				}
			}
		}
	}
}

func TestCellFromItself(t *testing.T) {
	for _, c := range samples() {
		for cell := range c.g.Cells {
			want := 0
			if c.g.Cells[cell] == '#' {
				want = -1
			}
			for _, blocked := range [][]int{nil, {cell}, c.blocked, append([]int{cell}, c.blocked...)} {
				if far := dist.Far(c.g, cell, cell, blocked); far != want {
					t.Fatalf("Far(%v, %d, %d, %v) = %d", c.g, cell, cell, blocked, far)
				}
			}
		}
	}
}

func TestBlockedGoal(t *testing.T) {
	expectAll(t, parse(t, "...\n"), 1, []int{1}, []int{-1, 0, -1})
	expectAll(t, parse(t, "..\n..\n"), 3, []int{3}, []int{-1, -1, -1, 0})
	expectAll(t, parse(t, "..\n..\n"), 3, []int{0, 3}, []int{-1, -1, -1, 0})
}

func TestBlockedStart(t *testing.T) {
	expectAll(t, parse(t, "...\n"), 2, []int{0}, []int{2, 1, 0})
	// It may be left, but nobody goes through it.
	expectAll(t, parse(t, "...\n"), 2, []int{1}, []int{-1, 1, 0})
	expectAll(t, parse(t, "...\n...\n"), 2, []int{0, 1, 5}, []int{-1, 1, 0, -1, -1, 1})
}

func TestListsOfBlockedCells(t *testing.T) {
	g := parse(t, "...\n.#.\n...\n")
	free := []int{0, 1, 2, 1, -1, 3, 2, 3, 4}
	for _, blocked := range [][]int{nil, {}, {4}, {4, 4}, absent, {9, 10, -3}, append([]int{4, 9}, absent...)} {
		expectAll(t, g, 0, blocked, free)
	}
	closed := []int{0, 1, 6, 1, -1, 5, 2, 3, 4}
	for _, blocked := range [][]int{{1}, {1, 1}, {1, 4}, {4, 1, 1, 4}, {1, 9, -1}, append([]int{1}, absent...), append(slices.Clone(absent), 1, 1)} {
		expectAll(t, g, 0, blocked, closed)
	}
	all := []int{0, 1, -1, 1, -1, -1, -1, -1, -1}
	for _, blocked := range [][]int{{0, 1, 2, 3, 4, 5, 6, 7, 8}, {8, 7, 6, 5, 4, 3, 2, 1, 0}, {1, 3}, {3, 1, 3, 4}} {
		want := all
		if slices.Contains(blocked, 0) {
			want = []int{0, -1, -1, -1, -1, -1, -1, -1, -1}
		}
		expectAll(t, g, 0, blocked, want)
	}
}

func TestGridOfOneCell(t *testing.T) {
	for _, letter := range letters {
		g := parse(t, string(letter)+"\n")
		for _, blocked := range [][]int{nil, {0}, {0, 0, 1}, {1}} {
			if letter != '#' {
				expectAll(t, g, 0, blocked, []int{0})
			} else if l, e := dist.Field(g, 0, blocked); len(l) != 0 || e != api.ErrArg || dist.Far(g, 0, 0, blocked) != -1 {
				t.Error("a wall alone:", l, e)
			}
			for _, other := range []int{-1, 1} {
				if dist.Far(g, 0, other, blocked) != -1 || dist.Far(g, other, 0, blocked) != -1 {
					t.Errorf("Far of the only cell %q and %d is not -1", letter, other)
				}
			}
			want := 0
			if letter == '#' {
				want = -1
			}
			if cell, far := dist.Nearest(g, 0, []int{1, 0, -1}, blocked); cell != want || far != want {
				t.Errorf("Nearest in %q: %d, %d", letter, cell, far)
			}
		}
	}
}

func TestRowsDoNotContinueInTheNextOne(t *testing.T) {
	expectAll(t, parse(t, "..#\n#..\n"), 1, nil, []int{1, 0, -1, -1, 1, 2})
	expectAll(t, parse(t, "#.\n.#\n"), 1, nil, []int{-1, 0, -1, -1})
	expectAll(t, parse(t, "##.\n.##\n"), 2, nil, []int{-1, -1, 0, -1, -1, -1})
	expectAll(t, parse(t, "##.\n.##\n"), 3, nil, []int{-1, -1, -1, 0, -1, -1})
	expectAll(t, parse(t, "##>\n<##\n"), 3, nil, []int{-1, -1, -1, 0, -1, -1})
}

func TestFieldAndFarAgreeWithRelaxedDistances(t *testing.T) {
	for _, c := range samples() {
		for to := range c.g.Cells {
			if c.g.Cells[to] != '#' {
				expectAll(t, c.g, to, c.blocked, relaxed(c.g, to, c.blocked))
			}
		}
		if t.Failed() {
			return
		}
	}
}

// squares calls f with each grid of two rows of two letters.
func squares(f func(g api.Grid)) {
	for n := range len(letters) * len(letters) * len(letters) * len(letters) {
		b := make([]byte, 4)
		for i := range b {
			b[i], n = letters[n%len(letters)], n/len(letters)
		}
		f(api.Grid{W: 2, H: 2, Cells: string(b)})
	}
}

func TestAllSmallSquares(t *testing.T) {
	squares(func(g api.Grid) {
		if strings.ContainsAny(g.Cells, "SC") { // like . in each of the promises
			return
		}
		for closed := range 16 {
			var blocked []int
			for cell := range 4 {
				if closed>>cell&1 == 1 {
					blocked = append(blocked, cell)
				}
			}
			for to := range 4 {
				if g.Cells[to] == '#' {
					continue
				}
				if l, want := field(t, g, to, blocked), relaxed(g, to, blocked); !slices.Equal(l, want) {
					t.Fatalf("Field(%v, %d, %v) = %v, want %v", g, to, blocked, l, want)
				}
			}
		}
	})
}

// serpent returns the greatest grid in which one way goes through each second row, and its last cell.
func serpent() (api.Grid, int) {
	var l []string
	for y := range most {
		row := strings.Repeat(".", most)
		if y%4 == 1 {
			row = strings.Repeat("#", most-1) + "."
		} else if y%4 == 3 {
			row = "." + strings.Repeat("#", most-1)
		}
		l = append(l, row)
	}
	return api.Grid{W: most, H: most, Cells: strings.Join(l, "")}, (most - 1) * most
}

func TestGreatestGrids(t *testing.T) {
	open := api.Grid{W: most, H: most, Cells: strings.Repeat(".", most*most)}
	last := most*most - 1
	if far := dist.Far(open, 0, last, nil); far != 2*most-2 {
		t.Error("from corner to corner:", far)
	}
	for cell, far := range field(t, open, last, nil) {
		if want := most - 1 - cell%most + most - 1 - cell/most; far != want {
			t.Fatalf("from %d to the last cell: %d, want %d", cell, far, want)
		}
	}
	g, end := serpent()
	// In each pair of rows all of one row and one cell of the other one are passed.
	want := most/2*(most+1) - 1
	if far := dist.Far(g, 0, end, nil); far != want {
		t.Error("along the serpent:", far, "want", want)
	}
	if far := dist.Far(g, end, 0, nil); far != want {
		t.Error("back along the serpent:", far, "want", want)
	}
	if cell, far := dist.Nearest(g, 0, []int{end}, nil); cell != end || far != want {
		t.Error("Nearest along the serpent:", cell, far)
	}
	if far := dist.Far(g, 0, end, []int{2*most - 1}); far != -1 {
		t.Error("along the blocked serpent:", far)
	}
}

func TestNearest(t *testing.T) {
	//     0  1  2  3  4
	//     5  6  7  8  9
	//     10 11 12 13 14
	g := parse(t, "...>.\n.#.#S\n..C..\n")
	for _, c := range []struct {
		name        string
		from        int
		of, blocked []int
		cell, far   int
	}{
		{"one cell", 0, []int{2}, nil, 2, 2},
		{"the nearer one, given first", 0, []int{2, 4}, nil, 2, 2},
		{"the nearer one, given last", 0, []int{14, 4, 2}, nil, 2, 2},
		{"the nearer one, with the greater number", 10, []int{0, 1, 11}, nil, 11, 1},
		{"two at one distance", 0, []int{1, 5}, nil, 1, 1},
		{"two at one distance, the greater one first", 0, []int{5, 1}, nil, 1, 1},
		{"four at one distance", 7, []int{10, 14, 0, 4}, nil, 0, 3},
		{"three at one distance, given in no order", 7, []int{11, 13, 1}, nil, 1, 2},
		{"two at one distance, and a lesser one that is further", 12, []int{0, 13, 7, 11}, nil, 7, 1},
		{"a cell that is given twice", 0, []int{4, 4}, nil, 4, 4},
		{"two cells that are given twice", 0, []int{7, 2, 7, 2}, nil, 2, 2},
		{"the start itself", 7, []int{7}, nil, 7, 0},
		{"the start itself among its neighbours", 7, []int{2, 12, 7}, nil, 7, 0},
		{"the start itself, with the greatest number", 14, []int{13, 14, 9}, nil, 14, 0},
		{"no cells", 7, nil, nil, -1, -1},
		{"no cells, blocked", 7, nil, []int{7}, -1, -1},
		{"a wall", 7, []int{6}, nil, -1, -1},
		{"two walls", 7, []int{8, 6}, nil, -1, -1},
		{"walls and a cell", 7, []int{8, 4, 6}, nil, 4, 3},
		{"cells that do not exist", 7, []int{-1, 15, 99}, nil, -1, -1},
		{"cells that do not exist and one that does", 7, []int{-1, 15, 0, 99, -7}, nil, 0, 3},
		{"from a wall", 6, []int{5, 7, 6}, nil, -1, -1},
		{"from a cell before the first one", -1, []int{0, -1}, nil, -1, -1},
		{"from a cell behind the last one", 15, []int{14, 15}, nil, -1, -1},
		{"a blocked start", 7, []int{2}, []int{7}, 2, 1},
		{"the start itself, blocked", 7, []int{2, 7}, []int{7}, 7, 0},
		{"a blocked cell", 7, []int{2}, []int{2}, -1, -1},
		{"a blocked cell and a free one", 7, []int{2, 14}, []int{2}, 14, 3},
		{"a way around a blocked cell", 0, []int{2}, []int{1}, 2, 6},
		{"the other one behind a blocked cell", 0, []int{2, 12}, []int{1}, 12, 4},
		{"all neighbours blocked", 7, []int{0, 4, 10, 14}, []int{2, 12}, -1, -1},
		{"blocked cells that do not exist, and walls", 0, []int{4}, []int{-1, 6, 15, 8, 99}, 4, 4},
		{"blocked cells that are given twice", 0, []int{2, 12}, []int{1, 5, 1, 5}, -1, -1},
		{"against the direction of a one-way cell", 4, []int{2}, nil, 2, 6},
		{"into a one-way cell against its direction", 4, []int{2, 3}, nil, 3, 1},
		{"from a one-way cell against its direction", 3, []int{2}, []int{9}, -1, -1},
		{"from a one-way cell in its direction", 3, []int{2, 4}, nil, 4, 1},
	} {
		if cell, far := dist.Nearest(g, c.from, c.of, c.blocked); cell != c.cell || far != c.far {
			t.Errorf("%s: Nearest(%d, %v, %v) = %d, %d, want %d, %d", c.name, c.from, c.of, c.blocked, cell, far, c.cell, c.far)
		}
	}
	for _, from := range absent {
		if cell, far := dist.Nearest(g, from, []int{0, from}, []int{from}); cell != -1 || far != -1 {
			t.Errorf("from %d: %d, %d", from, cell, far)
		}
		if cell, far := dist.Nearest(g, 0, append([]int{7}, absent...), absent); cell != 7 || far != 3 {
			t.Errorf("with cells that do not exist: %d, %d", cell, far)
		}
	}
}

func TestNearestIsTheLeastOfTheLeastDistances(t *testing.T) {
	r := rand.New(rand.NewSource(2))
	for _, c := range samples() {
		for from := range c.g.Cells {
			of := make([]int, r.Intn(5))
			for i := range of {
				of[i] = r.Intn(len(c.g.Cells)+2) - 1
			}
			best, least := -1, -1
			for cell := range c.g.Cells {
				far := -1
				if c.g.Cells[cell] != '#' && c.g.Cells[from] != '#' {
					far = relaxed(c.g, cell, c.blocked)[from]
				}
				if slices.Contains(of, cell) && far >= 0 && (least < 0 || far < least) {
					best, least = cell, far
				}
			}
			if cell, far := dist.Nearest(c.g, from, of, c.blocked); cell != best || far != least {
				t.Fatalf("Nearest(%v, %d, %v, %v) = %d, %d, want %d, %d", c.g, from, of, c.blocked, cell, far, best, least)
			}
		}
	}
}

func TestStepsGoNearerByOneAtMost(t *testing.T) {
	for _, c := range samples() {
		for to := range c.g.Cells {
			if c.g.Cells[to] == '#' {
				continue
			}
			l := field(t, c.g, to, c.blocked)
			for cell, far := range l {
				nearer := false
				for _, way := range grid.Ways(c.g, cell) {
					next, _ := grid.Goes(c.g, cell, way)
					if next != cell && slices.Contains(c.blocked, next) {
						continue
					}
					if ordered(l[next]) < ordered(far)-1 || far < 0 && l[next] >= 0 {
						t.Fatalf("%v to %d, %v blocked: from %d at %d to %d at %d", c.g, to, c.blocked, cell, far, next, l[next])
					}
					nearer = nearer || l[next] >= 0 && l[next] == far-1
				}
				if far > 0 && !nearer {
					t.Fatalf("%v to %d, %v blocked: no step goes nearer from %d at %d", c.g, to, c.blocked, cell, far)
				}
				if far == 0 && cell != to || far < -1 || far >= len(l) {
					t.Fatalf("%v to %d, %v blocked: the distance from %d is %d", c.g, to, c.blocked, cell, far)
				}
			}
		}
	}
}

func TestBlockingMoreNeverGoesNearer(t *testing.T) {
	for _, c := range samples() {
		for to := range c.g.Cells {
			if c.g.Cells[to] == '#' {
				continue
			}
			l := field(t, c.g, to, c.blocked)
			for more := range c.g.Cells {
				blocked := append(slices.Clone(c.blocked), more)
				for cell, far := range field(t, c.g, to, blocked) {
					if ordered(far) < ordered(l[cell]) {
						t.Fatalf("%v from %d to %d: %d, and %d when %d is blocked beside %v", c.g, cell, to, l[cell], far, more, c.blocked)
					}
				}
			}
		}
	}
}

func TestArgumentsAreLeftAsTheyAre(t *testing.T) {
	g := parse(t, "...\n...\n")
	of, blocked := []int{5, 2, 5, -1}, []int{4, 1, 4, 99}
	l := field(t, g, 0, blocked)
	dist.Far(g, 0, 5, blocked)
	dist.Nearest(g, 0, of, blocked)
	if !slices.Equal(of, []int{5, 2, 5, -1}) || !slices.Equal(blocked, []int{4, 1, 4, 99}) {
		t.Error("arguments changed:", of, blocked)
	}
	want := slices.Clone(l)
	for i := range l {
		l[i] = 9
	}
	for i := range blocked {
		blocked[i] = 0
	}
	if again := field(t, g, 0, []int{4, 1, 4, 99}); !slices.Equal(again, want) {
		t.Error("Field changed with an earlier result:", again)
	}
}

func TestNoCallPanicsOnGridsThatAreNotValid(t *testing.T) {
	numbers := append([]int{0, 1, 2, 3, 4, 5}, absent...)
	for _, cells := range []string{"", ".", "....", "..x.\n", "\xff\xae", "é."} {
		for _, w := range append([]int{3, 4, 5}, numbers...) {
			for _, h := range []int{math.MinInt, -1, 0, 1, 2, math.MaxInt} {
				g := api.Grid{W: w, H: h, Cells: cells}
				for _, cell := range numbers {
					dist.Field(g, cell, numbers[:2])
					dist.Far(g, cell, 1, nil)
					dist.Far(g, 0, cell, numbers[3:])
					dist.Nearest(g, cell, numbers, numbers[1:3])
				}
			}
		}
	}
}

func TestCallsAtTheSameTime(t *testing.T) {
	g, blocked := chosen(rand.New(rand.NewSource(3)), 30, 30, "....>#")
	of := grid.Of(g, '>')
	start := grid.Of(g, '.')[0]
	want := relaxed(g, start, blocked)
	cell, far := dist.Nearest(g, start, of, blocked)
	var all sync.WaitGroup
	for range 8 {
		all.Go(func() {
			if l, e := dist.Field(g, start, blocked); !slices.Equal(l, want) || e != api.OK {
				t.Error("Field differs")
			}
			if c, f := dist.Nearest(g, start, of, blocked); c != cell || f != far {
				t.Error("Nearest differs")
			}
			for from := range 20 {
				if dist.Far(g, from, start, blocked) != want[from] {
					t.Error("Far differs")
				}
			}
		})
	}
	all.Wait()
}

func TestImports(t *testing.T) {
	f, err := parser.ParseFile(token.NewFileSet(), "dist.go", nil, parser.ImportsOnly)
	if err != nil {
		t.Fatal(err)
	}
	for _, i := range f.Imports {
		if !slices.Contains([]string{`"iter"`, `"tugger/api"`, `"tugger/grid"`}, i.Path.Value) {
			t.Error("dist imports", i.Path.Value)
		}
	}
}

func BenchmarkFieldOfTheGreatestGrid(b *testing.B) {
	g, blocked := chosen(rand.New(rand.NewSource(4)), most, most, "...#")
	to := grid.Of(g, '.')[0]
	for b.Loop() {
		dist.Field(g, to, blocked)
	}
}

func BenchmarkFarAlongTheSerpent(b *testing.B) {
	g, end := serpent()
	for b.Loop() {
		dist.Far(g, 0, end, nil)
	}
}
