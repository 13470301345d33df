package gate_test

import (
	"go/parser"
	"go/token"
	"math"
	"math/rand"
	"slices"
	"sync"
	"testing"

	"tugger/api"
	"tugger/gate"
)

// extremes are numbers that may be cells like all others.
var extremes = []int{0, math.MinInt, math.MaxInt, -1, 1, math.MinInt + 1, math.MaxInt - 1, 1 << 32, -1 << 32, 1<<31 - 1, -1 << 31}

// expect reports what Gate does other than to return wanted cells.
func expect(t *testing.T, name string, cells, wants, blocked, want []int) {
	t.Helper()
	l, e := gate.Gate(cells, wants, blocked)
	if e != api.OK || !slices.Equal(l, want) {
		t.Errorf("%s: Gate(%.300v, %.300v, %.300v) = %.300v, %d, want %.300v", name, cells, wants, blocked, l, e, want)
	}
}

// expectError reports what Gate does other than to return a wanted error and nothing else.
func expectError(t *testing.T, name string, cells, wants, blocked []int, want api.Errno) {
	t.Helper()
	if l, e := gate.Gate(cells, wants, blocked); e != want || len(l) != 0 {
		t.Errorf("%s: Gate(%.300v, %.300v, %.300v) = %.300v, %d, want error %d", name, cells, wants, blocked, l, e, want)
	}
}

// expectClash reports what Clash does other than to return wanted indices.
func expectClash(t *testing.T, name string, from, to []int, first, second int) {
	t.Helper()
	if a, b := gate.Clash(from, to); a != first || b != second {
		t.Errorf("%s: Clash(%.300v, %.300v) = %d, %d, want %d, %d", name, from, to, a, b, first, second)
	}
}

// numbers returns those from first on.
func numbers(first, many int) []int {
	l := make([]int, many)
	for i := range l {
		l[i] = first + i
	}
	return l
}

func TestGate(t *testing.T) {
	for _, x := range []struct {
		name                        string
		cells, wants, blocked, want []int
	}{
		{"no robots", nil, nil, nil, nil},
		{"no robots, blocked cells", nil, nil, []int{0, 1}, nil},
		{"one that stays", []int{3}, []int{3}, nil, []int{3}},
		{"one that stays in a blocked cell", []int{3}, []int{3}, []int{3}, []int{3}},
		{"one that moves", []int{3}, []int{9}, nil, []int{9}},
		{"one that moves out of a blocked cell", []int{3}, []int{9}, []int{3}, []int{9}},
		{"one that requests a blocked cell", []int{3}, []int{9}, []int{9}, []int{3}},
		{"one in a blocked cell that requests a blocked cell", []int{3}, []int{9}, []int{3, 9}, []int{3}},
		{"blocked cells in no order, and twice", []int{3, 4, 5}, []int{9, 8, 7}, []int{9, 2, 7, 9, 1}, []int{3, 8, 5}},
		{"several that stay", []int{3, 1, 2}, []int{3, 1, 2}, []int{1}, []int{3, 1, 2}},
		{"several that move", []int{3, 1, 2}, []int{6, 4, 5}, nil, []int{6, 4, 5}},
		{"the example that exchanges", []int{1, 2}, []int{2, 1}, nil, []int{1, 2}},
		{"the example that follows", []int{1, 2}, []int{2, 3}, nil, []int{2, 3}},
		{"the last one follows the first one", []int{2, 1}, []int{3, 2}, nil, []int{3, 2}},
		{"two that request one cell", []int{1, 3}, []int{2, 2}, nil, []int{2, 3}},
		{"two that request one cell, the other way round", []int{3, 1}, []int{2, 2}, nil, []int{2, 1}},
		{"three that request one cell", []int{8, 1, 3}, []int{2, 2, 2}, nil, []int{2, 1, 3}},
		{"two that request one cell, beside others", []int{7, 1, 3, 9}, []int{6, 2, 2, 5}, nil, []int{6, 2, 3, 5}},
		{"two that request one blocked cell", []int{1, 3}, []int{2, 2}, []int{2}, []int{1, 3}},
		{"two that request one cell that another one leaves", []int{1, 3, 2}, []int{2, 2, 5}, nil, []int{2, 3, 5}},
		{"two that request one cell that a first one leaves", []int{2, 3, 1}, []int{5, 2, 2}, nil, []int{5, 2, 1}},
		{"a robot stays in the cell", []int{1, 2}, []int{2, 2}, nil, []int{1, 2}},
		{"a first robot stays in the cell", []int{2, 1}, []int{2, 2}, nil, []int{2, 1}},
		{"a robot stays in the cell that two request", []int{1, 2, 3}, []int{2, 2, 2}, nil, []int{1, 2, 3}},
		{"two exchange, another one requests one of their cells", []int{1, 2, 3}, []int{2, 1, 2}, nil, []int{1, 2, 3}},
		{"another first one requests it", []int{3, 1, 2}, []int{2, 2, 1}, nil, []int{3, 1, 2}},
		{"two pairs that exchange", []int{1, 5, 6, 2}, []int{2, 6, 5, 1}, nil, []int{1, 5, 6, 2}},
		{"a ring of three", []int{1, 2, 3}, []int{2, 3, 1}, nil, []int{2, 3, 1}},
		{"a ring of three the other way round", []int{1, 2, 3}, []int{3, 1, 2}, nil, []int{3, 1, 2}},
		{"a ring of four", []int{1, 2, 4, 5}, []int{2, 5, 1, 4}, nil, []int{2, 5, 1, 4}},
		{"two rings", []int{1, 5, 2, 6, 3, 7}, []int{2, 6, 3, 7, 1, 5}, nil, []int{2, 6, 3, 7, 1, 5}},
		{"a ring with a blocked cell", []int{1, 2, 3}, []int{2, 3, 1}, []int{3}, []int{1, 2, 3}},
		{"a ring into which another one wants to go", []int{1, 2, 3, 9}, []int{2, 3, 1, 1}, nil, []int{2, 3, 1, 9}},
		{"a ring into which a first one goes", []int{9, 1, 2, 3}, []int{1, 2, 3, 1}, nil, []int{9, 1, 2, 3}},
		{"a ring that one leaves", []int{1, 2, 3}, []int{2, 3, 8}, nil, []int{2, 3, 8}},
		{"a row before a blocked cell", []int{1, 2, 3, 4}, []int{2, 3, 4, 5}, []int{5}, []int{1, 2, 3, 4}},
		{"a row in no order before a blocked cell", []int{3, 1, 4, 2}, []int{4, 2, 5, 3}, []int{5}, []int{3, 1, 4, 2}},
		{"a row before one that stays", []int{1, 2, 3, 4}, []int{2, 3, 4, 4}, nil, []int{1, 2, 3, 4}},
		{"a row before two that exchange", []int{1, 2, 3, 4}, []int{2, 3, 4, 3}, nil, []int{1, 2, 3, 4}},
		{"a row of which one in the middle is stopped", []int{1, 2, 3, 4}, []int{2, 3, 4, 5}, []int{3}, []int{1, 2, 4, 5}},
		{"a row whose first one loses its cell", []int{9, 1, 2, 3}, []int{4, 2, 3, 4}, nil, []int{4, 1, 2, 3}},
		{"a row whose first one gets its cell", []int{1, 2, 3, 9}, []int{2, 3, 4, 4}, nil, []int{2, 3, 4, 9}},
		{"one stopped because one that was to leave was stopped", []int{1, 2, 3, 9}, []int{2, 3, 3, 2}, nil, []int{1, 2, 3, 9}},
		{"two rows that meet in one cell", []int{1, 2, 6, 7}, []int{2, 9, 7, 9}, nil, []int{2, 9, 6, 7}},
		{"the first of two is stopped in a later round, the second stays", []int{1, 3, 2, 4}, []int{2, 2, 4, 4}, nil, []int{1, 3, 2, 4}},
		{"one stopped because one that lost its cell was to leave", []int{1, 2, 3}, []int{5, 5, 2}, nil, []int{5, 2, 3}},
		{"each for another reason", []int{1, 2, 3, 4, 5, 6, 7, 8}, []int{90, 91, 91, 4, 4, 7, 6, 98}, []int{90}, []int{1, 91, 3, 4, 5, 6, 7, 98}},
	} {
		expect(t, x.name, x.cells, x.wants, x.blocked, x.want)
		if l, e, _ := judge(x.cells, x.wants, x.blocked); e != api.OK || !slices.Equal(l, x.want) {
			t.Errorf("%s: the judge returns %v, %d, want %v", x.name, l, e, x.want)
		}
	}
}

func TestWantsAreAsManyAsCells(t *testing.T) {
	for many := range 5 {
		for others := range 5 {
			cells, wants := numbers(1, many), numbers(1, others)
			if many == others {
				expect(t, "as many", cells, wants, nil, wants)
				continue
			}
			expectError(t, "not as many", cells, wants, nil, api.ErrArg)
			expectError(t, "not as many, blocked", cells, wants, []int{1, 2, 3}, api.ErrArg)
			expectError(t, "not as many, equal cells", make([]int, many), wants, nil, api.ErrArg)
		}
	}
	expectError(t, "room for more", numbers(1, 3), numbers(1, 3)[:2], nil, api.ErrArg)
}

func TestEqualCells(t *testing.T) {
	for many := 2; many < 8; many++ {
		for second := 1; second < many; second++ {
			for first := range second {
				cells, wants := numbers(10, many), numbers(10, many)
				cells[second] = cells[first]
				expectError(t, "equal", cells, wants, nil, api.ErrTwice)
				expectError(t, "equal and blocked", cells, wants, cells, api.ErrTwice)
				expectError(t, "equal, all stay", cells, cells, nil, api.ErrTwice)
			}
		}
	}
	for _, cell := range extremes {
		expectError(t, "extreme", []int{cell, 5, cell}, []int{1, 2, 3}, nil, api.ErrTwice)
		expectError(t, "side by side", []int{cell, cell}, []int{1, 2}, nil, api.ErrTwice)
	}
	far := numbers(0, 10000)
	far[9999] = 0
	expectError(t, "far", far, numbers(0, 10000), nil, api.ErrTwice)
	expectError(t, "all", make([]int, 100), make([]int, 100), nil, api.ErrTwice)
}

// TestOnlyCellsMustDiffer has requests and blocked cells that are equal.
func TestOnlyCellsMustDiffer(t *testing.T) {
	expect(t, "equal requests", []int{1, 2, 3}, []int{7, 7, 7}, nil, []int{7, 2, 3})
	expect(t, "equal blocked cells", []int{1, 2, 3}, []int{7, 8, 9}, []int{8, 8, 8}, []int{7, 2, 9})
}

// TestEachNumberIsACell has numbers that could be taken for the absence of a cell or of a robot.
func TestEachNumberIsACell(t *testing.T) {
	for _, a := range extremes {
		expect(t, "stays", []int{a}, []int{a}, nil, []int{a})
		expect(t, "stays, blocked", []int{a}, []int{a}, []int{a}, []int{a})
		for _, b := range extremes {
			if a == b {
				continue
			}
			expect(t, "moves", []int{a}, []int{b}, []int{a}, []int{b})
			expect(t, "blocked", []int{a}, []int{b}, []int{b}, []int{a})
			expect(t, "stays there", []int{a, b}, []int{b, b}, nil, []int{a, b})
			expect(t, "exchange", []int{a, b}, []int{b, a}, nil, []int{a, b})
			expect(t, "follows", []int{a, b}, []int{b, 77}, nil, []int{b, 77})
			expect(t, "one cell", []int{77, a}, []int{b, b}, nil, []int{b, a})
			expectClash(t, "exchange", []int{a, b}, []int{b, a}, 0, 1)
			expectClash(t, "one cell", []int{77, a}, []int{b, b}, 0, 1)
			expectClash(t, "follows", []int{a, b}, []int{b, 77}, -1, -1)
		}
		expectClash(t, "stays", []int{a}, []int{a}, -1, -1)
	}
}

// row returns robots one behind the other that want to go on by a cell each; the places of their indices are as r
// chooses, or in order if it is nil.
func row(r *rand.Rand, many int) (cells, wants []int) {
	cells = numbers(1, many)
	if r != nil {
		r.Shuffle(many, func(i, j int) { cells[i], cells[j] = cells[j], cells[i] })
	}
	for _, cell := range cells {
		wants = append(wants, cell+1)
	}
	return cells, wants
}

// TestRowsAreStoppedRoundByRound has rows of each length, of which each robot in turn is stopped.
func TestRowsAreStoppedRoundByRound(t *testing.T) {
	r := rand.New(rand.NewSource(1))
	for many := range 12 {
		for stopped := range many + 1 {
			for _, order := range []*rand.Rand{nil, r, r} {
				cells, wants := row(order, many)
				want := slices.Clone(wants)
				for i, cell := range cells {
					// Cell stopped + 1 is blocked: whoever goes there and all behind stay.
					if cell <= stopped {
						want[i] = cell
					}
				}
				expect(t, "row", cells, wants, []int{stopped + 1}, want)
				if _, _, rounds := judge(cells, wants, []int{stopped + 1}); rounds != stopped {
					t.Errorf("%d of a row of %d are stopped in %d rounds", stopped, many, rounds)
				}
			}
		}
	}
}

// TestLongRows would take long if each round went through all robots.
func TestLongRows(t *testing.T) {
	const many = 200000
	r := rand.New(rand.NewSource(2))
	for _, order := range []*rand.Rand{nil, r} {
		cells, wants := row(order, many)
		expect(t, "goes", cells, wants, nil, wants)
		expect(t, "stopped", cells, wants, []int{many + 1}, cells)
		expectClash(t, "goes", cells, wants, -1, -1)
		for i, cell := range wants {
			if cell == many+1 {
				wants[i] = 1
			}
		}
		expect(t, "ring", cells, wants, nil, wants)
		expectClash(t, "ring", cells, wants, -1, -1)
	}
}

// judge is the test's own Gate: rounds as the chapter words them. It returns how many rounds stopped a robot, too.
func judge(cells, wants, blocked []int) ([]int, api.Errno, int) {
	if len(cells) != len(wants) {
		return nil, api.ErrArg, 0
	}
	for i := range cells {
		for j := range i {
			if cells[i] == cells[j] {
				return nil, api.ErrTwice, 0
			}
		}
	}
	now := append([]int(nil), wants...)
	for rounds := 0; ; rounds++ {
		next := append([]int(nil), now...)
		for i := range now {
			if stops(i, cells, now, blocked) {
				next[i] = cells[i]
			}
		}
		if slices.Equal(now, next) {
			return now, api.OK, rounds
		}
		now = next
	}
}

// stops is the chapter's condition.
func stops(i int, cells, now, blocked []int) bool {
	wants := func(k int) bool { return now[k] != cells[k] }
	if !wants(i) {
		return false
	}
	for _, cell := range blocked {
		if cell == now[i] {
			return true
		}
	}
	for j := range now {
		if j == i {
			continue
		}
		if cells[j] == now[i] && !wants(j) {
			return true
		}
		if j < i && wants(j) && now[j] == now[i] {
			return true
		}
		if cells[j] == now[i] && wants(j) && now[j] == cells[i] {
			return true
		}
	}
	return false
}

// collide is the chapter's condition for two robots.
func collide(from, to []int, i, j int) bool {
	return to[i] == to[j] || to[i] == from[j] && to[j] == from[i]
}

// judgeClash is the test's own Clash.
func judgeClash(from, to []int) (int, int) {
	many := min(len(from), len(to))
	for i := range many {
		for j := i + 1; j < many; j++ {
			if collide(from, to, i, j) {
				return i, j
			}
		}
	}
	return -1, -1
}

// expectJudged reports a Gate that differs from the judge's, or whose result breaks the stage's theorem.
func expectJudged(t *testing.T, cells, wants, blocked []int) {
	t.Helper()
	wasCells, wasWants, wasBlocked := slices.Clone(cells), slices.Clone(wants), slices.Clone(blocked)
	l, e := gate.Gate(cells, wants, blocked)
	if want, code, _ := judge(cells, wants, blocked); e != code || !slices.Equal(l, want) {
		t.Fatalf("Gate(%v, %v, %v) = %v, %d, want %v, %d", cells, wants, blocked, l, e, want, code)
	}
	if !slices.Equal(cells, wasCells) || !slices.Equal(wants, wasWants) || !slices.Equal(blocked, wasBlocked) {
		t.Fatalf("Gate(%v, %v, %v) changed its arguments", wasCells, wasWants, wasBlocked)
	}
	if e == api.OK {
		expectTheorem(t, cells, wants, blocked, l)
	}
}

// expectTheorem reports what of P8.3 does not hold for a result of Gate.
func expectTheorem(t *testing.T, cells, wants, blocked, l []int) {
	t.Helper()
	if len(l) != len(cells) {
		t.Fatalf("Gate(%v, %v, %v) = %v", cells, wants, blocked, l)
	}
	if i, j := judgeClash(cells, l); i >= 0 {
		t.Fatalf("Gate(%v, %v, %v) = %v: %d and %d collide", cells, wants, blocked, l, i, j)
	}
	if i, j := gate.Clash(cells, l); i != -1 || j != -1 {
		t.Fatalf("after Gate(%v, %v, %v) = %v, Clash = %d, %d", cells, wants, blocked, l, i, j)
	}
	for i, cell := range l {
		if cell != cells[i] && cell != wants[i] {
			t.Fatalf("Gate(%v, %v, %v) = %v: %d goes elsewhere", cells, wants, blocked, l, i)
		}
		if cell != cells[i] && slices.Contains(blocked, cell) {
			t.Fatalf("Gate(%v, %v, %v) = %v: %d goes to a blocked cell", cells, wants, blocked, l, i)
		}
		others := append(slices.Clone(wants[:i]), wants[i+1:]...)
		free := !slices.Contains(blocked, wants[i]) && !slices.Contains(cells, wants[i]) && !slices.Contains(others, wants[i])
		if free && cell != wants[i] {
			t.Fatalf("Gate(%v, %v, %v) = %v: %d does not go to a free cell", cells, wants, blocked, l, i)
		}
	}
}

// lists yields all lists of some length of numbers below some bound.
func lists(length, below int, yield func(l []int)) {
	l := make([]int, length)
	var fill func(at int)
	fill = func(at int) {
		if at == length {
			yield(l)
			return
		}
		for n := range below {
			l[at] = n
			fill(at + 1)
		}
	}
	fill(0)
}

// named returns the extremes that numbers stand for.
func named(l []int) []int {
	var names []int
	for _, n := range l {
		names = append(names, extremes[n])
	}
	return names
}

// TestAllFewRobots has all requests of up to three robots in four cells, to these cells and one more, with all blocked
// cells.
func TestAllFewRobots(t *testing.T) {
	for many := range 4 {
		lists(many, 4, func(cells []int) {
			lists(many, 5, func(wants []int) {
				for set := range 1 << 5 {
					var blocked []int
					for cell := range 5 {
						if set>>cell&1 == 1 {
							blocked = append(blocked, cell)
						}
					}
					expectJudged(t, cells, wants, blocked)
				}
			})
		})
	}
}

// TestAllRequestsOfFourRobots has four robots in all orders, and a blocked cell or none, also with extreme numbers.
func TestAllRequestsOfFourRobots(t *testing.T) {
	lists(4, 4, func(cells []int) {
		lists(4, 5, func(wants []int) {
			expectJudged(t, cells, wants, nil)
			for cell := range 5 {
				expectJudged(t, cells, wants, []int{cell})
			}
			expectJudged(t, named(cells), named(wants), nil)
			expectJudged(t, named(cells), named(wants), named(wants[:1]))
		})
	})
}

func TestAllFewClashes(t *testing.T) {
	for many := range 6 {
		lists(many, 3, func(from []int) {
			lists(many, 3, func(to []int) {
				first, second := judgeClash(from, to)
				expectClash(t, "few", from, to, first, second)
			})
		})
	}
	for many := range 4 {
		for others := range 4 {
			lists(many, 4, func(from []int) {
				lists(others, 4, func(to []int) {
					first, second := judgeClash(named(from), named(to))
					expectClash(t, "few, extreme", named(from), named(to), first, second)
				})
			})
		}
	}
}

// chosen returns robots in different cells of a square, who want to stay or to go to a cell beside theirs, and blocked
// cells, as r chooses.
func chosen(r *rand.Rand) (cells, wants, blocked []int) {
	side := 2 + r.Intn(4)
	all := r.Perm(side * side)
	cells = all[:r.Intn(len(all)+1)]
	stays := 1 + r.Intn(9)
	for _, cell := range cells {
		want := cell
		if r.Intn(stays) > 0 {
			want = cell + []int{1, -1, side, -side}[r.Intn(4)]
		}
		wants = append(wants, want)
	}
	for range r.Intn(3) {
		blocked = append(blocked, r.Intn(side*side))
	}
	return cells, wants, blocked
}

func TestChosenRobots(t *testing.T) {
	r := rand.New(rand.NewSource(3))
	later := 0
	for range 20000 {
		cells, wants, blocked := chosen(r)
		expectJudged(t, cells, wants, blocked)
		if _, _, rounds := judge(cells, wants, blocked); rounds > 3 {
			later++
		}
	}
	if later < 100 {
		t.Errorf("only %d samples have more than three rounds", later)
	}
}

func TestChosenClashes(t *testing.T) {
	r := rand.New(rand.NewSource(4))
	kinds := map[bool]int{}
	for range 20000 {
		from, to := make([]int, r.Intn(12)), make([]int, r.Intn(12))
		below := 2 + r.Intn(60)
		for i := range from {
			from[i] = r.Intn(below)
		}
		for i := range to {
			to[i] = r.Intn(below)
		}
		first, second := judgeClash(from, to)
		expectClash(t, "chosen", from, to, first, second)
		kinds[first < 0]++
	}
	if kinds[false] < 1000 || kinds[true] < 1000 {
		t.Errorf("%d clash, %d do not", kinds[false], kinds[true])
	}
}

func TestClash(t *testing.T) {
	for _, x := range []struct {
		name          string
		from, to      []int
		first, second int
	}{
		{"no robots", nil, nil, -1, -1},
		{"none before", nil, []int{1, 1}, -1, -1},
		{"none after", []int{1, 1}, nil, -1, -1},
		{"one that stays", []int{1}, []int{1}, -1, -1},
		{"one that moves", []int{1}, []int{2}, -1, -1},
		{"two that stay", []int{1, 2}, []int{1, 2}, -1, -1},
		{"two that follow", []int{1, 2}, []int{2, 3}, -1, -1},
		{"two that follow the other way round", []int{2, 1}, []int{3, 2}, -1, -1},
		{"two that arrive at one cell", []int{1, 3}, []int{2, 2}, 0, 1},
		{"one arrives where another one stays", []int{1, 2}, []int{2, 2}, 0, 1},
		{"one stays where another one arrives", []int{1, 2}, []int{1, 1}, 0, 1},
		{"two that exchange", []int{1, 2}, []int{2, 1}, 0, 1},
		{"two that exchange, far", []int{1, 5, 6, 7, 2}, []int{2, 5, 6, 7, 1}, 0, 4},
		{"a ring of three", []int{1, 2, 3}, []int{2, 3, 1}, -1, -1},
		{"a ring of four", []int{1, 2, 4, 5}, []int{2, 5, 1, 4}, -1, -1},
		{"the last two", []int{1, 2, 3}, []int{0, 5, 5}, 1, 2},
		{"the first and the last", []int{1, 2, 3}, []int{5, 0, 5}, 0, 2},
		{"the first with several: the least", []int{1, 2, 3, 4}, []int{9, 8, 9, 9}, 0, 2},
		{"the first robot that collides, not the first that is hit", []int{1, 2, 3, 4}, []int{9, 8, 8, 9}, 0, 3},
		{"exchange before one cell", []int{1, 2, 9}, []int{2, 1, 2}, 0, 1},
		{"one cell before exchange", []int{1, 9, 2}, []int{2, 2, 1}, 0, 1},
		{"exchanges with two from one cell", []int{1, 7, 2, 2}, []int{2, 7, 1, 1}, 0, 2},
		{"two pairs", []int{5, 1, 2, 6}, []int{6, 2, 1, 5}, 0, 3},
		{"two pairs, one after the other", []int{1, 2, 5, 6}, []int{2, 1, 6, 5}, 0, 1},
		{"from one cell to different ones", []int{1, 1}, []int{2, 3}, -1, -1},
		{"from one cell to one", []int{1, 1}, []int{2, 2}, 0, 1},
		{"both stay in one cell", []int{1, 1}, []int{1, 1}, 0, 1},
		{"one leaves their cell", []int{1, 1}, []int{1, 2}, -1, -1},
		{"as many as collide exist in both", []int{1, 3}, []int{2, 2, 2}, 0, 1},
		{"less before", []int{1}, []int{2, 2}, -1, -1},
		{"less after", []int{1, 2}, []int{2}, -1, -1},
		{"less before, an exchange behind", []int{1, 2, 3}, []int{1, 2, 4, 3}, -1, -1},
		{"less after, an exchange behind", []int{1, 2, 3, 4}, []int{1, 2, 4}, -1, -1},
	} {
		expectClash(t, x.name, x.from, x.to, x.first, x.second)
	}
	from, to := numbers(0, 10000), numbers(20000, 10000)
	to[9999] = 20000
	expectClash(t, "far", from, to, 0, 9999)
}

func TestResultsShareNothing(t *testing.T) {
	whole := [][]int{{1, 2, 3, 4, 77, 78}, {2, 3, 3, 5, 77, 78}, {9, 5, 77, 78}}
	was := [][]int{slices.Clone(whole[0]), slices.Clone(whole[1]), slices.Clone(whole[2])}
	unchanged := func() bool { return slices.EqualFunc(whole, was, slices.Equal[[]int]) }
	call := func() []int {
		l, e := gate.Gate(whole[0][:4], whole[1][:4], whole[2][:2])
		if e != api.OK {
			t.Fatal(e)
		}
		return l
	}
	first, second := call(), call()
	kept := slices.Clone(second)
	gate.Clash(whole[0][:4], whole[1][:4])
	if !unchanged() {
		t.Errorf("the arguments, or what lies behind them, became %v", whole)
	}
	clear(first[:cap(first)])
	if !unchanged() || !slices.Equal(second, kept) {
		t.Error("a result shares memory with an argument or with another result")
	}
	for _, l := range whole {
		clear(l)
	}
	if !slices.Equal(second, kept) {
		t.Error("a result shares memory with an argument")
	}
}

// TestArgumentsMayBeOneSlice has slices that share their elements.
func TestArgumentsMayBeOneSlice(t *testing.T) {
	l := []int{1, 2, 3}
	stay, e := gate.Gate(l, l, l)
	if e != api.OK || !slices.Equal(stay, []int{1, 2, 3}) {
		t.Error(stay, e)
	}
	stay[0] = 9
	if l[0] != 1 {
		t.Error("the result is the argument")
	}
	expectClash(t, "one slice", l, l, -1, -1)
	shared := []int{1, 2, 3, 4}
	expect(t, "overlap", shared[:3], shared[1:], nil, []int{2, 3, 4})
	expect(t, "overlap, blocked", shared[:3], shared[1:], shared[3:], []int{1, 2, 3})
}

func TestEmptySlicesAreLikeNil(t *testing.T) {
	expect(t, "empty", []int{}, []int{}, []int{}, nil)
	expect(t, "empty and nil", []int{}, nil, nil, nil)
	expect(t, "nil and empty", nil, []int{}, nil, nil)
	expect(t, "nothing blocked", []int{1, 2}, []int{2, 3}, []int{}, []int{2, 3})
	expectError(t, "empty and one", []int{}, []int{1}, nil, api.ErrArg)
	expectClash(t, "empty", []int{}, []int{}, -1, -1)
	expectClash(t, "nil and empty", nil, []int{}, -1, -1)
}

func TestAnswersDependOnArgumentsAlone(t *testing.T) {
	r := rand.New(rand.NewSource(5))
	for range 50 {
		cells, wants, blocked := chosen(r)
		want, _, _ := judge(cells, wants, blocked)
		first, second := judgeClash(cells, wants)
		for range 20 {
			expect(t, "again", cells, wants, blocked, want)
			expectClash(t, "again", cells, wants, first, second)
		}
	}
}

func TestCallsAtTheSameTime(t *testing.T) {
	r := rand.New(rand.NewSource(6))
	cells, wants, blocked := chosen(r)
	for len(cells) < 12 {
		cells, wants, blocked = chosen(r)
	}
	want, _, _ := judge(cells, wants, blocked)
	first, second := judgeClash(cells, wants)
	var all sync.WaitGroup
	for range 8 {
		all.Go(func() {
			for range 200 {
				if l, e := gate.Gate(cells, wants, blocked); e != api.OK || !slices.Equal(l, want) {
					t.Error("Gate differs")
					return
				}
				if a, b := gate.Clash(cells, wants); a != first || b != second {
					t.Error("Clash differs")
					return
				}
			}
		})
	}
	all.Wait()
}

func TestImports(t *testing.T) {
	f, err := parser.ParseFile(token.NewFileSet(), "gate.go", nil, parser.ImportsOnly)
	if err != nil {
		t.Fatal(err)
	}
	for _, i := range f.Imports {
		if !slices.Contains([]string{`"slices"`, `"tugger/api"`}, i.Path.Value) {
			t.Error("gate imports", i.Path.Value)
		}
	}
}

func BenchmarkGateOfARowThatIsStopped(b *testing.B) {
	cells, wants := row(rand.New(rand.NewSource(7)), api.MostRobots)
	for b.Loop() {
		gate.Gate(cells, wants, []int{api.MostRobots + 1})
	}
}

func BenchmarkClash(b *testing.B) {
	cells, wants := row(nil, api.MostRobots)
	for b.Loop() {
		gate.Clash(cells, wants)
	}
}
