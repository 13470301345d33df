package grid_test

import (
	"go/parser"
	"go/token"
	"math"
	"math/rand"
	"slices"
	"strings"
	"sync"
	"testing"

	"tugger/api"
	"tugger/grid"
)

const (
	most    = api.MostSide
	letters = ".#SC><^v"
)

// parse returns the grid of a text, which must be one.
func parse(t *testing.T, s string) api.Grid {
	t.Helper()
	g, e := grid.Parse(s)
	if e != api.OK {
		t.Fatalf("Parse(%q): %d", s, e)
	}
	return g
}

// rows returns the text of many equal rows.
func rows(row string, many int) string { return strings.Repeat(row+"\n", many) }

// chosen returns a grid of the given sides with letters among some, in an order that r chooses.
func chosen(r *rand.Rand, w, h int, among string) api.Grid {
	b := make([]byte, w*h)
	for i := range b {
		b[i] = among[r.Intn(len(among))]
	}
	return api.Grid{W: w, H: h, Cells: string(b)}
}

// samples returns valid grids of many sides, the same ones each time.
func samples(among string) []api.Grid {
	r := rand.New(rand.NewSource(1))
	var l []api.Grid
	for w := 1; w <= 6; w++ {
		for h := 1; h <= 6; h++ {
			for range 10 {
				l = append(l, chosen(r, w, h, among))
			}
		}
	}
	return append(l, chosen(r, most, 1, among), chosen(r, 1, most, among), chosen(r, most, 3, among), chosen(r, 3, most, among), chosen(r, most, most, among))
}

// text returns the text of a grid by the library's means.
func text(g api.Grid) string {
	var l []string
	for row := range slices.Chunk([]byte(g.Cells), g.W) {
		l = append(l, string(row)+"\n")
	}
	return strings.Join(l, "")
}

// leads says what Goes must answer, for a valid grid and a cell that exists, by columns and rows.
func leads(g api.Grid, cell, way int) (int, bool) {
	var toX, toY int
	var own byte
	switch way {
	case api.Stay:
	case api.North:
		toY, own = -1, '^'
	case api.East:
		toX, own = 1, '>'
	case api.South:
		toY, own = 1, 'v'
	case api.West:
		toX, own = -1, '<'
	default:
		return 0, false
	}
	from := g.Cells[cell]
	if way != api.Stay && strings.IndexByte("^>v<", from) >= 0 && from != own {
		return 0, false
	}
	x, y := cell%g.W+toX, cell/g.W+toY
	if from == '#' || x < 0 || x >= g.W || y < 0 || y >= g.H || g.Cells[y*g.W+x] == '#' {
		return 0, false
	}
	return y*g.W + x, true
}

func TestParseReturnsTheRows(t *testing.T) {
	for _, c := range []struct {
		s    string
		want api.Grid
	}{
		{".\n", api.Grid{W: 1, H: 1, Cells: "."}},
		{"#\n", api.Grid{W: 1, H: 1, Cells: "#"}},
		{".>.\n", api.Grid{W: 3, H: 1, Cells: ".>."}},
		{".\nS\n#\n", api.Grid{W: 1, H: 3, Cells: ".S#"}},
		{letters + "\n", api.Grid{W: 8, H: 1, Cells: letters}},
		{".#S\nC><\n", api.Grid{W: 3, H: 2, Cells: ".#SC><"}},
		{".#\nSC\n><\n^v\n", api.Grid{W: 2, H: 4, Cells: letters}},
		{rows(".", most), api.Grid{W: 1, H: most, Cells: strings.Repeat(".", most)}},
		{rows(strings.Repeat("C", most), 1), api.Grid{W: most, H: 1, Cells: strings.Repeat("C", most)}},
		{rows(strings.Repeat("S", most), most), api.Grid{W: most, H: most, Cells: strings.Repeat("S", most*most)}},
	} {
		g, e := grid.Parse(c.s)
		if g != c.want || e != api.OK {
			t.Errorf("Parse(%.20q) = %d x %d, %.20q, %d", c.s, g.W, g.H, g.Cells, e)
		}
	}
}

func TestParseRefuses(t *testing.T) {
	full := strings.Repeat(".", most)
	form, many := api.ErrForm, api.ErrMany
	for _, c := range []struct {
		name, s string
		e       api.Errno
	}{
		{"the empty string", "", form},
		{"one letter without a line feed", ".", form},
		{"a row without a line feed", "...", form},
		{"a last row without a line feed", "..\n..", form},
		{"a shorter last row without a line feed", "..\n.", form},
		{"a longer last row without a line feed", "..\n...", form},
		{"a last row of a wrong letter", ".\nx", form},

		{"one empty row", "\n", form},
		{"two empty rows", "\n\n", form},
		{"an empty first row", "\n..\n", form},
		{"an empty row in the middle", "..\n\n..\n", form},
		{"an empty last row", "..\n\n", form},

		{"a shorter second row", "..\n.\n", form},
		{"a longer second row", ".\n..\n", form},
		{"a shorter third row", "..\n..\n.\n", form},
		{"a longer third row", "..\n..\n...\n", form},
		{"a different row in the middle", "..\n.\n..\n", form},
		{"rows that have as many letters as a square", "...\n.\n", form},

		{"a wrong letter", "x\n", form},
		{"a wrong letter among others", "..\n.x\n..\n", form},
		{"a small letter", "s\n", form},
		{"a great letter", "V\n", form},
		{"a space behind a row", ". \n", form},
		{"a byte 0", "\x00\n", form},
		{"a carriage return", ".\r\n", form},
		{"carriage returns instead of line feeds", ".\r.\r", form},
		{"a byte that is no rune", "\xe9\n", form},
		{"the lowest byte of a letter behind a byte that is no rune", "\xff.\n", form},
		{"a rune of two bytes", "é\n", form},
		{"a rune of two bytes under two letters", "..\né\n", form},
		{"a rune of two bytes under one letter", ".\né\n", form},
		{"a rune whose lowest byte is a letter's", string(rune(0x100+'.')) + "\n", form},
		{"a rune whose lowest byte is a line feed's", "." + string(rune(0x100+'\n')), form},
		{"the rune that stands for none", "\ufffd\n", form},
		{"a line separator", ".\u2028.\n", form},
		{"a mark of the order of bytes", "\ufeff.\n", form},

		{"257 rows", rows(".", most+1), many},
		{"257 letters in a row", rows(full+".", 1), many},
		{"257 letters in each row", rows(full+".", most), many},
		{"257 rows of 256", rows(full, most+1), many},
		{"257 rows of 257", rows(full+".", most+1), many},
		{"70000 rows", rows("v", 70000), many},
		{"2^16 + 1 letters", rows(strings.Repeat("#", 1<<16+1), 1), many},

		{"257 rows without the last line feed", rows(".", most) + ".", form},
		{"257 letters without a line feed", full + ".", form},
		{"257 rows, and an empty one", rows(".", most+1) + "\n", form},
		{"an empty row, and 257", "\n" + rows(".", most+1), form},
		{"257 rows, and a longer one", rows(".", most+1) + "..\n", form},
		{"257 letters, and a row of 256", full + ".\n" + full + "\n", form},
		{"256 letters, and a row of 257", full + "\n" + full + ".\n", form},
		{"257 letters, and a wrong one", full + ".x\n", form},
		{"257 rows, and a wrong letter", rows(".", most+1) + "x\n", form},
		{"a wrong letter, and 257 rows", "x\n" + rows(".", most+1), form},
		{"257 wrong letters", rows(strings.Repeat("x", most+1), 1), form},
	} {
		if g, e := grid.Parse(c.s); g != (api.Grid{}) || e != c.e {
			t.Errorf("%s: Parse returns %d x %d, %.20q, %d, want nothing and %d", c.name, g.W, g.H, g.Cells, e, c.e)
		}
	}
}

func TestEachByteAsLetter(t *testing.T) {
	for i := range 256 {
		c := string([]byte{byte(i)})
		is := strings.Contains(letters, c)
		if grid.Right(api.Grid{W: 1, H: 1, Cells: c}) != is {
			t.Errorf("Right of the cell %q is not %v", c, is)
		}
		for _, s := range []string{c + "\n", "." + c + ".\n", "..\n" + c + "C\n"} {
			want := api.ErrForm
			if is {
				want = api.OK
			}
			// A line feed in the middle of a row makes two rows of it.
			if i == '\n' && s == ".\n.\n" {
				want = api.OK
			}
			if _, e := grid.Parse(s); e != want {
				t.Errorf("Parse(%q): %d, want %d", s, e, want)
			}
		}
	}
}

func TestParseAndRightAgreeOnShortTexts(t *testing.T) {
	// All texts of a few letters; the regular ones are those that the chapter's sentence lets.
	texts := []string{""}
	for range 7 {
		var longer []string
		for _, s := range texts {
			g, e := grid.Parse(s)
			lines := strings.Split(s, "\n")
			last := len(lines) - 1
			fits := last > 0 && lines[last] == "" && lines[0] != "" && !strings.Contains(s, "x")
			for _, row := range lines[:last] {
				fits = fits && len(row) == len(lines[0])
			}
			want := api.Grid{}
			if fits {
				want = api.Grid{W: len(lines[0]), H: last, Cells: strings.Join(lines, "")}
			}
			if g != want || (e == api.OK) != fits || !fits && e != api.ErrForm || grid.Right(g) != fits {
				t.Errorf("Parse(%q) = %v, %d", s, g, e)
			}
			for _, c := range ".#x\n" {
				longer = append(longer, s+string(c))
			}
		}
		texts = longer
	}
}

func TestPrintReturnsTheText(t *testing.T) {
	for _, c := range []struct {
		g    api.Grid
		want string
	}{
		{api.Grid{W: 1, H: 1, Cells: "#"}, "#\n"},
		{api.Grid{W: 8, H: 1, Cells: letters}, letters + "\n"},
		{api.Grid{W: 4, H: 2, Cells: letters}, ".#SC\n><^v\n"},
		{api.Grid{W: 2, H: 4, Cells: letters}, ".#\nSC\n><\n^v\n"},
		{api.Grid{W: 1, H: 8, Cells: letters}, ".\n#\nS\nC\n>\n<\n^\nv\n"},
		{api.Grid{W: most, H: 1, Cells: strings.Repeat(".", most)}, rows(strings.Repeat(".", most), 1)},
		{api.Grid{W: 1, H: most, Cells: strings.Repeat(".", most)}, rows(".", most)},
	} {
		if s := grid.Print(c.g); s != c.want || !grid.Right(c.g) {
			t.Errorf("Print(%.40v) = %.40q", c.g, s)
		}
	}
}

// wrongGrids returns grids that are not valid, with what is wrong about them.
func wrongGrids() map[string]api.Grid {
	all := strings.Repeat(".", (most+1)*most)
	return map[string]api.Grid{
		"the zero value":               {},
		"W 0":                          {W: 0, H: 1},
		"W 0 and a letter":             {W: 0, H: 1, Cells: "."},
		"W -1":                         {W: -1, H: 1, Cells: "."},
		"W 257":                        {W: most + 1, H: 1, Cells: all[:most+1]},
		"W 257 and H 256":              {W: most + 1, H: most, Cells: all},
		"W the least":                  {W: math.MinInt, H: 1, Cells: "."},
		"W the greatest":               {W: math.MaxInt, H: 1, Cells: "."},
		"H 0":                          {W: 1, H: 0},
		"H 0 and a letter":             {W: 1, H: 0, Cells: "."},
		"H -1":                         {W: 1, H: -1, Cells: "."},
		"H 257":                        {W: 1, H: most + 1, Cells: all[:most+1]},
		"H 257 and W 256":              {W: most, H: most + 1, Cells: all},
		"H the least":                  {W: 1, H: math.MinInt, Cells: "."},
		"H the greatest":               {W: 1, H: math.MaxInt, Cells: "."},
		"both -1":                      {W: -1, H: -1, Cells: "."},
		"both -2":                      {W: -2, H: -2, Cells: "...."},
		"a product that wraps to 0":    {W: math.MinInt, H: 2},
		"both the least":               {W: math.MinInt, H: math.MinInt},
		"a product that wraps to 1":    {W: math.MaxInt, H: math.MaxInt, Cells: "."},
		"no letters":                   {W: 1, H: 1},
		"one letter too few":           {W: 2, H: 2, Cells: "..."},
		"one letter too many":          {W: 2, H: 2, Cells: "....."},
		"a row too few":                {W: 3, H: 2, Cells: "..."},
		"a row too many":               {W: 3, H: 2, Cells: "........."},
		"the text instead of letters":  {W: 2, H: 2, Cells: "..\n..\n"},
		"a line feed as letter":        {W: 3, H: 1, Cells: ".\n."},
		"a wrong first letter":         {W: 2, H: 2, Cells: "x..."},
		"a wrong last letter":          {W: 2, H: 2, Cells: "...x"},
		"a rune of two bytes":          {W: 2, H: 1, Cells: "é"},
		"a rune of two bytes as one":   {W: 1, H: 1, Cells: "é"},
		"a rune like a letter":         {W: 2, H: 1, Cells: string(rune(0x100 + '.'))},
		"a rune like a letter, as one": {W: 1, H: 1, Cells: string(rune(0x100 + '.'))},
		"bytes that are no runes":      {W: 2, H: 1, Cells: "\xff\xae"},
	}
}

func TestGridsThatAreNotValid(t *testing.T) {
	for name, g := range wrongGrids() {
		if grid.Right(g) {
			t.Errorf("%s: Right", name)
		}
		if s := grid.Print(g); s != "" {
			t.Errorf("%s: Print returns %.40q", name, s)
		}
	}
}

func TestNoCallPanicsOnGridsThatAreNotValid(t *testing.T) {
	numbers := []int{math.MinInt, -2, -1, 0, 1, 2, 3, 4, 5, most, most * most, math.MaxInt}
	for _, g := range wrongGrids() {
		for _, cell := range numbers {
			grid.Floor(g, cell)
			grid.Ways(g, cell)
			for _, way := range numbers {
				grid.Goes(g, cell, way)
			}
		}
		for i := range 256 {
			grid.Of(g, byte(i))
		}
	}
}

func TestFloor(t *testing.T) {
	g := parse(t, ".#S\nC><\n^v#\n")
	for cell, want := range []bool{true, false, true, true, true, true, true, true, false} {
		if grid.Floor(g, cell) != want {
			t.Errorf("Floor of cell %d is not %v", cell, want)
		}
	}
	for _, cell := range []int{math.MinInt, -9, -3, -1, 9, 10, 12, math.MaxInt} {
		if grid.Floor(g, cell) {
			t.Errorf("Floor of cell %d", cell)
		}
	}
}

func TestGoes(t *testing.T) {
	//     0 1 2 3
	//     4 5 6 7
	//     8 9 10 11
	g := parse(t, "....\n..#.\nC..S\n")
	for _, c := range []struct {
		cell, way, to int
		is            bool
	}{
		{0, api.Stay, 0, true}, {0, api.North, 0, false}, {0, api.East, 1, true}, {0, api.South, 4, true}, {0, api.West, 0, false},
		{3, api.Stay, 3, true}, {3, api.North, 0, false}, {3, api.East, 0, false}, {3, api.South, 7, true}, {3, api.West, 2, true},
		{4, api.Stay, 4, true}, {4, api.North, 0, true}, {4, api.East, 5, true}, {4, api.South, 8, true}, {4, api.West, 0, false},
		{5, api.Stay, 5, true}, {5, api.North, 1, true}, {5, api.East, 0, false}, {5, api.South, 9, true}, {5, api.West, 4, true},
		{7, api.Stay, 7, true}, {7, api.North, 3, true}, {7, api.East, 0, false}, {7, api.South, 11, true}, {7, api.West, 0, false},
		{8, api.Stay, 8, true}, {8, api.North, 4, true}, {8, api.East, 9, true}, {8, api.South, 0, false}, {8, api.West, 0, false},
		{11, api.Stay, 11, true}, {11, api.North, 7, true}, {11, api.East, 0, false}, {11, api.South, 0, false}, {11, api.West, 10, true},
		{2, api.South, 0, false}, {10, api.North, 0, false}, {1, api.West, 0, true}, {9, api.East, 10, true},
		{6, api.Stay, 0, false}, {6, api.North, 0, false}, {6, api.East, 0, false}, {6, api.South, 0, false}, {6, api.West, 0, false},
	} {
		if to, is := grid.Goes(g, c.cell, c.way); to != c.to || is != c.is {
			t.Errorf("Goes(%d, %d) = %d, %v, want %d, %v", c.cell, c.way, to, is, c.to, c.is)
		}
	}
}

func TestNoStepFromCellsThatDoNotExist(t *testing.T) {
	g := parse(t, "....\n....\n....\n")
	for _, cell := range []int{math.MinInt, math.MinInt + 4, -12, -5, -4, -3, -1, 12, 13, 15, 16, 24, math.MaxInt - 4, math.MaxInt} {
		for way := api.Stay; way <= api.West; way++ {
			if to, is := grid.Goes(g, cell, way); to != 0 || is {
				t.Errorf("Goes(%d, %d) = %d, %v", cell, way, to, is)
			}
		}
		if l := grid.Ways(g, cell); len(l) != 0 {
			t.Errorf("Ways(%d) = %v", cell, l)
		}
	}
}

func TestNumbersThatAreNoDirections(t *testing.T) {
	for _, g := range []api.Grid{parse(t, "...\n...\n...\n"), parse(t, letters+"\n")} {
		for cell := -1; cell <= len(g.Cells); cell++ {
			for _, way := range []int{math.MinInt, -256, -4, -2, -1, 5, 6, 8, 256, 257, 258, 1 << 31, math.MaxInt} {
				if to, is := grid.Goes(g, cell, way); to != 0 || is {
					t.Errorf("Goes(%d, %d) = %d, %v", cell, way, to, is)
				}
			}
		}
	}
}

func TestRowsDoNotContinueInTheNextOne(t *testing.T) {
	for _, w := range []int{1, 2, 3, most} {
		g := parse(t, rows(strings.Repeat(".", w), 3))
		for y := range 3 {
			first, last := y*w, y*w+w-1
			if to, is := grid.Goes(g, last, api.East); to != 0 || is {
				t.Errorf("East from %d, the last cell of a row of %d: %d, %v", last, w, to, is)
			}
			if to, is := grid.Goes(g, first, api.West); to != 0 || is {
				t.Errorf("West from %d, the first cell of a row of %d: %d, %v", first, w, to, is)
			}
		}
	}
}

func TestOneWayCells(t *testing.T) {
	to := []int{4, 1, 5, 7, 3}
	for letter, only := range map[string]int{"^": api.North, ">": api.East, "v": api.South, "<": api.West} {
		g := parse(t, "...\n."+letter+".\n...\n")
		for way := api.Stay; way <= api.West; way++ {
			want, can := 0, way == only || way == api.Stay
			if can {
				want = to[way]
			}
			if cell, is := grid.Goes(g, 4, way); cell != want || is != can {
				t.Errorf("from %s by %d: %d, %v", letter, way, cell, is)
			}
		}
		if l := grid.Ways(g, 4); !slices.Equal(l, []int{api.Stay, only}) {
			t.Errorf("Ways from %s: %v", letter, l)
		}
		// It can be entered from each side, even against its direction.
		for from, way := range map[int]int{1: api.South, 3: api.East, 5: api.West, 7: api.North} {
			if cell, is := grid.Goes(g, from, way); cell != 4 || !is {
				t.Errorf("from %d into %s: %d, %v", from, letter, cell, is)
			}
		}
		if l := grid.Ways(parse(t, letter+"\n"), 0); !slices.Equal(l, []int{api.Stay}) {
			t.Errorf("Ways from %s alone: %v", letter, l)
		}
		if l := grid.Ways(parse(t, "###\n#"+letter+"#\n###\n"), 4); !slices.Equal(l, []int{api.Stay}) {
			t.Errorf("Ways from %s between walls: %v", letter, l)
		}
	}
}

func TestExampleOfTheChapter(t *testing.T) {
	g := parse(t, ".>.\n")
	for cell, want := range [][]int{{api.Stay, api.East}, {api.Stay, api.East}, {api.Stay, api.West}} {
		if l := grid.Ways(g, cell); !slices.Equal(l, want) {
			t.Errorf("Ways(%d) = %v, want %v", cell, l, want)
		}
	}
}

func TestWays(t *testing.T) {
	g := parse(t, "...\n.S#\n.C.\n")
	for cell, want := range [][]int{{0, 2, 3}, {0, 2, 3, 4}, {0, 4}, {0, 1, 2, 3}, {0, 1, 3, 4}, {}, {0, 1, 2}, {0, 1, 2, 4}, {0, 4}} {
		if l := grid.Ways(g, cell); !slices.Equal(l, want) {
			t.Errorf("Ways(%d) = %v, want %v", cell, l, want)
		}
	}
	if l := grid.Ways(parse(t, "...\n...\n...\n"), 4); !slices.Equal(l, []int{0, 1, 2, 3, 4}) {
		t.Error("Ways in the middle:", l)
	}
}

func TestStepsAgreeWithColumnsAndRows(t *testing.T) {
	for _, g := range samples(letters + ".....") {
		for cell := range g.Cells {
			var ways []int
			for way := -1; way <= 5; way++ {
				to, is := grid.Goes(g, cell, way)
				wantTo, want := leads(g, cell, way)
				if to != wantTo || is != want {
					t.Fatalf("Goes(%.80v, %d, %d) = %d, %v, want %d, %v", g, cell, way, to, is, wantTo, want)
				}
				if want {
					ways = append(ways, way)
				}
			}
			if l := grid.Ways(g, cell); !slices.Equal(l, ways) {
				t.Fatalf("Ways(%.80v, %d) = %v, want %v", g, cell, l, ways)
			}
			if grid.Floor(g, cell) != (g.Cells[cell] != '#') {
				t.Fatalf("Floor(%.80v, %d)", g, cell)
			}
		}
	}
}

func TestOf(t *testing.T) {
	g := parse(t, "S.#\n.SC\n>^S\n")
	for letter, want := range map[byte][]int{'S': {0, 4, 8}, '.': {1, 3}, '#': {2}, 'C': {5}, '>': {6}, '^': {7}, '<': nil, 'v': nil, 'x': nil, '\n': nil, 0: nil, 255: nil} {
		if l := grid.Of(g, letter); !slices.Equal(l, want) {
			t.Errorf("Of(%q) = %v, want %v", letter, l, want)
		}
	}
}

func TestEachCellHasOneLetter(t *testing.T) {
	for _, g := range samples(letters) {
		got := make([]byte, len(g.Cells))
		for i := range 256 {
			l := grid.Of(g, byte(i))
			if !slices.IsSorted(l) {
				t.Fatalf("Of(%.80v, %d) = %v", g, i, l)
			}
			for _, cell := range l {
				got[cell] += byte(i)
			}
		}
		if string(got) != g.Cells {
			t.Fatalf("the cells of all letters of %.80v are %.80q", g, got)
		}
	}
}

func TestParseAndPrintAreInverse(t *testing.T) {
	for _, g := range samples(letters) {
		s := grid.Print(g)
		if s != text(g) || !grid.Right(g) {
			t.Fatalf("Print(%.80v) = %.80q", g, s)
		}
		if back, e := grid.Parse(s); back != g || e != api.OK {
			t.Fatalf("Parse(Print(%.80v)) = %.80v, %d", g, back, e)
		}
	}
}

func TestWhatIsParsedIsPrintedAgain(t *testing.T) {
	r := rand.New(rand.NewSource(2))
	fit := 0
	for range 50000 {
		b := make([]byte, r.Intn(9))
		for i := range b {
			b[i] = ".S\n"[r.Intn(3)]
		}
		s := string(b)
		g, e := grid.Parse(s)
		if e != api.OK {
			continue
		}
		fit++
		if !grid.Right(g) || grid.Print(g) != s {
			t.Fatalf("Print(Parse(%q)) = %q", s, grid.Print(g))
		}
	}
	if fit < 1000 {
		t.Error("too few texts of grids:", fit)
	}
}

func TestStepsCanBeTakenBack(t *testing.T) {
	back := []int{api.Stay, api.South, api.West, api.North, api.East}
	for _, g := range samples("...SC#") {
		for cell := range g.Cells {
			for _, way := range grid.Ways(g, cell) {
				to, is := grid.Goes(g, cell, way)
				if home, can := grid.Goes(g, to, back[way]); !is || home != cell || !can {
					t.Fatalf("%.80v: from %d by %d to %d (%v), and back to %d (%v)", g, cell, way, to, is, home, can)
				}
			}
		}
	}
}

func TestResultsAreNotShared(t *testing.T) {
	g := parse(t, "...\n...\n...\n")
	l, m := grid.Ways(g, 4), grid.Of(g, '.')
	for i := range l {
		l[i] = 9
	}
	for i := range m {
		m[i] = 99
	}
	if l = grid.Ways(g, 4); !slices.Equal(l, []int{0, 1, 2, 3, 4}) {
		t.Error("Ways changed with an earlier result:", l)
	}
	if m = grid.Of(g, '.'); !slices.Equal(m, []int{0, 1, 2, 3, 4, 5, 6, 7, 8}) {
		t.Error("Of changed with an earlier result:", m)
	}
}

func TestCallsAtTheSameTime(t *testing.T) {
	s := text(chosen(rand.New(rand.NewSource(3)), 40, 40, letters))
	want := parse(t, s)
	var all sync.WaitGroup
	for range 8 {
		all.Go(func() {
			for cell := range want.Cells {
				to, is := grid.Goes(want, cell, api.East)
				if wantTo, can := leads(want, cell, api.East); to != wantTo || is != can {
					t.Error("an answer differs")
					return
				}
			}
			if g, e := grid.Parse(s); g != want || e != api.OK || grid.Print(g) != s {
				t.Error("an answer differs")
			}
		})
	}
	all.Wait()
}

func TestImportsOnlyApi(t *testing.T) {
	f, err := parser.ParseFile(token.NewFileSet(), "grid.go", nil, parser.ImportsOnly)
	if err != nil {
		t.Fatal(err)
	}
	for _, i := range f.Imports {
		if i.Path.Value != `"tugger/api"` {
			t.Error("grid imports", i.Path.Value)
		}
	}
}

func BenchmarkGoesFromEachCell(b *testing.B) {
	g := chosen(rand.New(rand.NewSource(4)), most, most, "...#")
	for b.Loop() {
		for cell := range g.Cells {
			for way := api.Stay; way <= api.West; way++ {
				grid.Goes(g, cell, way)
			}
		}
	}
}
