package tests

import (
	"math"
	"math/bits"
	"testing"

	"loop.example/failingnets/impl"
)

// board has so many columns and rows.
type board struct {
	columns int
	rows    int
}

// allBoards returns all boards.
func allBoards() []board {
	var list []board
	for columns := 1; columns <= impl.MaxColumns; columns++ {
		for rows := 1; rows <= impl.MaxRows; rows++ {
			list = append(list, board{columns, rows})
		}
	}
	return list
}

// wrongPairs returns what is no pair of numbers, of which each has a least and a greatest value.
func wrongPairs(leastA, mostA, leastB, mostB int) [][2]int {
	var list [][2]int
	wrongA := append(wrongNumbers(leastA, mostA+1), 1<<62, -1<<62, 63, 64)
	wrongB := append(wrongNumbers(leastB, mostB+1), 1<<62, -1<<62, 63, 64)
	for _, a := range wrongA {
		for b := leastB; b <= mostB; b++ {
			list = append(list, [2]int{a, b})
		}
		for _, b := range wrongB {
			list = append(list, [2]int{a, b})
		}
	}
	for _, b := range wrongB {
		for a := leastA; a <= mostA; a++ {
			list = append(list, [2]int{a, b})
		}
	}
	return list
}

// wrongBoards returns what is no board.
func wrongBoards() []board {
	var list []board
	for _, pair := range wrongPairs(1, impl.MaxColumns, 1, impl.MaxRows) {
		list = append(list, board{pair[0], pair[1]})
	}
	return append(list, board{3, 4}, board{2, 6}, board{-2, -3}, board{-4, -1})
}

// cells returns how many cells a board has.
func (b board) cells() int {
	return b.columns * b.rows
}

// states returns how many states a board has.
func (b board) states() int {
	return 1 << b.cells()
}

// touch finds in another way whether two cells touch: each row is drawn half a cell further to the right than the one below, and cells that touch have middles two halves apart, or one half and a row.
func (b board) touch(one, other int) bool {
	across := 2*(one%b.columns-other%b.columns) + one/b.columns - other/b.columns
	up := one/b.columns - other/b.columns
	return up == 0 && across*across == 4 || up*up == 1 && across*across == 1
}

// groups gives each cell the least number of those of its colour that it comes to, found by handing on lesser numbers until nothing changes.
func (b board) groups(state int) []int {
	list := make([]int, b.cells())
	for cell := range list {
		list[cell] = cell
	}
	for changed := true; changed; {
		changed = false
		for one := range list {
			for other := range list {
				if b.touch(one, other) && state>>one%2 == state>>other%2 && list[other] < list[one] {
					list[one], changed = list[other], true
				}
			}
		}
	}
	return list
}

// across finds in another way whether dark cells lead from left to right, and whether light ones lead from below to above.
func (b board) across(state int) (bool, bool) {
	groups := b.groups(state)
	dark, light := false, false
	for one := range groups {
		for other := range groups {
			if groups[one] != groups[other] {
				continue
			}
			if state>>one%2 == 1 && one%b.columns == 0 && other%b.columns == b.columns-1 {
				dark = true
			}
			if state>>one%2 == 0 && one/b.columns == 0 && other/b.columns == b.rows-1 {
				light = true
			}
		}
	}
	return dark, light
}

// mustLead fails a test unless it is told as wanted whether dark cells lead across, and light ones.
func (b board) mustLead(t *testing.T, state int, dark, light bool) {
	t.Helper()
	if impl.DarkOk(state, b.columns, b.rows) != dark {
		t.Fatal("DarkOk", b, state, !dark)
	}
	if impl.LightOk(state, b.columns, b.rows) != light {
		t.Fatal("LightOk", b, state, !light)
	}
}

// mustTouch fails a test unless it is told as wanted whether two cells touch, either way.
func (b board) mustTouch(t *testing.T, one, other int, want bool) {
	t.Helper()
	if impl.TouchOk(one, other, b.columns, b.rows) != want || impl.TouchOk(other, one, b.columns, b.rows) != want {
		t.Fatal("TouchOk", b, one, other, !want)
	}
}

func TestPromise31OneCellIsABoard(t *testing.T) {
	if !impl.BoardOk(1, 1) || !impl.BoardOk(impl.MaxColumns, impl.MaxRows) {
		t.Fatal("one cell, or the greatest board, is none")
	}
	for columns := -9; columns <= 70; columns++ {
		for rows := -9; rows <= 70; rows++ {
			want := columns >= 1 && columns <= 4 && rows >= 1 && rows <= 3
			if impl.BoardOk(columns, rows) != want {
				t.Fatal("BoardOk", columns, rows, !want)
			}
			if impl.BoardOk(columns, rows) && columns > 1 && !impl.BoardOk(columns-1, rows) {
				t.Fatal("no board with a column fewer", columns, rows)
			}
		}
	}
	for _, b := range wrongBoards() {
		if impl.BoardOk(b.columns, b.rows) {
			t.Fatal("a board", b)
		}
	}
	mustBeRow(t, "the greatest board", "board", []int{impl.MaxColumns, impl.MaxRows}, []int{4, 3})
}

func TestPromise32EachCellTouchesSixAtMost(t *testing.T) {
	for _, b := range allBoards() {
		all, most := 0, 0
		for one := range b.cells() {
			touched := 0
			for other := range b.cells() {
				b.mustTouch(t, one, other, b.touch(one, other))
				if impl.TouchOk(one, other, b.columns, b.rows) {
					touched++
				}
			}
			b.mustTouch(t, one, one, false)
			all, most = all+touched, max(most, touched)
		}
		if most > 6 || b.columns > 2 && b.rows > 2 && most != 6 {
			t.Fatal("not six at most", b, most)
		}
		// Each touching is told of both cells: beside each other, straight above, and above on the left.
		want := b.rows*(b.columns-1) + (b.rows-1)*b.columns + (b.rows-1)*(b.columns-1)
		mustBeNumber(t, "all that touch", b, all, 2*want)
	}
}

func TestWhichCellsTouch(t *testing.T) {
	for _, c := range []struct {
		board board
		cell  int
		list  []int
	}{
		{board{3, 3}, 0, []int{1, 3}},
		{board{3, 3}, 1, []int{0, 2, 3, 4}},
		{board{3, 3}, 2, []int{1, 4, 5}},
		{board{3, 3}, 3, []int{0, 1, 4, 6}},
		{board{3, 3}, 4, []int{1, 2, 3, 5, 6, 7}},
		{board{3, 3}, 5, []int{2, 4, 7, 8}},
		{board{3, 3}, 6, []int{3, 4, 7}},
		{board{3, 3}, 7, []int{4, 5, 6, 8}},
		{board{3, 3}, 8, []int{5, 7}},
		{board{4, 3}, 0, []int{1, 4}},
		{board{4, 3}, 3, []int{2, 6, 7}},
		{board{4, 3}, 5, []int{1, 2, 4, 6, 8, 9}},
		{board{4, 3}, 6, []int{2, 3, 5, 7, 9, 10}},
		{board{4, 3}, 8, []int{4, 5, 9}},
		{board{4, 3}, 11, []int{7, 10}},
		{board{2, 2}, 0, []int{1, 2}},
		{board{2, 2}, 1, []int{0, 2, 3}},
		{board{2, 2}, 2, []int{0, 1, 3}},
		{board{2, 2}, 3, []int{1, 2}},
		{board{4, 1}, 0, []int{1}},
		{board{4, 1}, 2, []int{1, 3}},
		{board{1, 3}, 0, []int{1}},
		{board{1, 3}, 1, []int{0, 2}},
		{board{1, 3}, 2, []int{1}},
		{board{2, 1}, 0, []int{1}},
		{board{1, 2}, 1, []int{0}},
		{board{1, 1}, 0, nil},
	} {
		var got []int
		for other := range c.board.cells() {
			if impl.TouchOk(c.cell, other, c.board.columns, c.board.rows) {
				got = append(got, other)
			}
		}
		mustBeRow(t, "what touches", []any{c.board, c.cell}, got, c.list)
	}
}

func TestPromise33AlwaysJustOneOfBothLeadsAcross(t *testing.T) {
	for _, b := range allBoards() {
		for state := range b.states() {
			dark := impl.DarkOk(state, b.columns, b.rows)
			b.mustLead(t, state, dark, !dark)
			for cell := range b.cells() {
				if dark && !impl.DarkOk(state|1<<cell, b.columns, b.rows) {
					t.Fatal("a cell dark more does not lead", b, state, cell)
				}
			}
		}
	}
}

func TestPromise34LightWithoutDarkCellsLeadsAcross(t *testing.T) {
	for _, b := range allBoards() {
		b.mustLead(t, 0, false, true)
		b.mustLead(t, b.states()-1, true, false)
		for state := range b.states() {
			for cell := range b.cells() {
				if impl.LightOk(state, b.columns, b.rows) && !impl.LightOk(state&^(1<<cell), b.columns, b.rows) {
					t.Fatal("a cell light more does not lead", b, state, cell)
				}
			}
		}
	}
}

func TestPromise35OnSquareBoardsHalfIsWonByDark(t *testing.T) {
	for _, b := range allBoards() {
		count := impl.CountDark(b.columns, b.rows)
		if b.columns == b.rows {
			mustBeNumber(t, "half of all states", b, count, b.states()/2)
		}
		if b.rows == 1 {
			mustBeNumber(t, "one row", b, count, 1)
		}
		if b.columns == 1 {
			mustBeNumber(t, "one column", b, count, b.states()-1)
		}
		if b.rows < impl.MaxRows && impl.CountDark(b.columns, b.rows+1) < count<<b.columns {
			t.Fatal("fewer with a row more", b)
		}
	}
}

func TestCountsOfDark(t *testing.T) {
	for _, c := range []struct {
		board board
		want  int
	}{
		{board{1, 1}, 1}, {board{2, 1}, 1}, {board{3, 1}, 1}, {board{4, 1}, 1},
		{board{1, 2}, 3}, {board{2, 2}, 8}, {board{3, 2}, 21}, {board{4, 2}, 55},
		{board{1, 3}, 7}, {board{2, 3}, 43}, {board{3, 3}, 256}, {board{4, 3}, 1509},
	} {
		mustBeNumber(t, "CountDark", c.board, impl.CountDark(c.board.columns, c.board.rows), c.want)
	}
}

func TestBoardsAreAsFoundOtherwise(t *testing.T) {
	for _, b := range allBoards() {
		count := 0
		for state := range b.states() {
			dark, light := b.across(state)
			b.mustLead(t, state, dark, light)
			if dark {
				count++
			}
		}
		mustBeNumber(t, "CountDark", b, impl.CountDark(b.columns, b.rows), count)
	}
}

func TestStatesOfBoards(t *testing.T) {
	for _, c := range []struct {
		board board
		state int
		dark  bool
	}{
		// The rows of three columns of three: 7, 56 and 448; one alone leads, and with any cell light it does not.
		{board{3, 3}, 7, true},
		{board{3, 3}, 56, true},
		{board{3, 3}, 448, true},
		{board{3, 3}, 3, false},
		{board{3, 3}, 5, false},
		{board{3, 3}, 40, false},
		{board{3, 3}, 192, false},
		// Down to the right from one row to the next, all cells touch; up to the right they do not.
		{board{3, 3}, 1<<6 | 1<<4 | 1<<2, true},
		{board{3, 3}, 1<<0 | 1<<4 | 1<<8, false},
		{board{3, 3}, 1<<0 | 1<<3 | 1<<4 | 1<<5, true},
		{board{3, 3}, 1<<0 | 1<<3 | 1<<4 | 1<<7 | 1<<8, true},
		{board{3, 3}, 1<<0 | 1<<1 | 1<<4 | 1<<5, true},
		{board{3, 3}, 1<<0 | 1<<1 | 1<<5 | 1<<8, false},
		// A column alone does not lead, but for one in the middle light leads no more straight up.
		{board{3, 3}, 1<<1 | 1<<4 | 1<<7, false},
		{board{3, 3}, 1<<0 | 1<<2 | 1<<6 | 1<<8, false},
		{board{2, 2}, 1<<0 | 1<<3, false},
		{board{2, 2}, 1<<1 | 1<<2, true},
		{board{2, 2}, 1<<0 | 1<<2, false},
		{board{2, 2}, 1<<1 | 1<<3, false},
		// From the upper left corner of the greatest board down to the lower right one, and over the middle row.
		{board{4, 3}, 1<<8 | 1<<5 | 1<<2 | 1<<3, true},
		{board{4, 3}, 1<<8 | 1<<9 | 1<<6 | 1<<3, true},
		{board{4, 3}, 1<<0 | 1<<5 | 1<<10 | 1<<11, false},
		{board{4, 3}, 1<<0 | 1<<4 | 1<<5 | 1<<9 | 1<<10 | 1<<11, true},
		{board{4, 3}, 1<<0 | 1<<4 | 1<<9 | 1<<10 | 1<<11, false},
		{board{4, 3}, 0xFFF &^ (1<<1 | 1<<5 | 1<<9), false},
		{board{4, 3}, 0xFFF &^ (1<<1 | 1<<5 | 1<<8), false},
		{board{4, 3}, 0xFFF &^ (1<<1 | 1<<6 | 1<<9), true},
		{board{4, 3}, 0xFFF &^ (1<<1 | 1<<5 | 1<<10), true},
		// Back to the left and on again: the way goes up, left and up before it comes to the right.
		{board{3, 3}, 1<<3 | 1<<1 | 1<<2, true},
	} {
		c.board.mustLead(t, c.state, c.dark, !c.dark)
	}
}

func TestBoardsOfOneRow(t *testing.T) {
	for columns := 1; columns <= impl.MaxColumns; columns++ {
		b := board{columns, 1}
		for state := range b.states() {
			// Dark needs all cells, light just one, which lies at both its sides.
			all := state == b.states()-1
			b.mustLead(t, state, all, !all)
		}
		for one := range columns {
			for other := range columns {
				b.mustTouch(t, one, other, one-other == 1 || other-one == 1)
			}
		}
	}
}

func TestBoardsOfOneColumn(t *testing.T) {
	for rows := 1; rows <= impl.MaxRows; rows++ {
		b := board{1, rows}
		for state := range b.states() {
			b.mustLead(t, state, state != 0, state == 0)
		}
		for one := range rows {
			for other := range rows {
				b.mustTouch(t, one, other, one-other == 1 || other-one == 1)
			}
		}
	}
}

func TestOneCell(t *testing.T) {
	one := board{1, 1}
	one.mustTouch(t, 0, 0, false)
	one.mustLead(t, 0, false, true)
	one.mustLead(t, 1, true, false)
	one.mustLead(t, 2, false, false)
	one.mustLead(t, -1, false, false)
	mustBeNumber(t, "CountDark", one, impl.CountDark(1, 1), 1)
}

func TestBoardsTurnedHalfRound(t *testing.T) {
	for _, b := range allBoards() {
		last := b.cells() - 1
		for one := range b.cells() {
			for other := range b.cells() {
				b.mustTouch(t, last-one, last-other, impl.TouchOk(one, other, b.columns, b.rows))
			}
		}
		for state := range b.states() {
			turned := int(bits.Reverse16(uint16(state))) >> (16 - b.cells())
			b.mustLead(t, turned, impl.DarkOk(state, b.columns, b.rows), impl.LightOk(state, b.columns, b.rows))
		}
	}
}

func TestBoardsWithColumnsForRows(t *testing.T) {
	for _, b := range allBoards() {
		if b.columns > impl.MaxRows {
			continue
		}
		other := board{b.rows, b.columns}
		for state := range b.states() {
			mirrored := 0
			for cell := range b.cells() {
				// What was dark is light then, so that light leads where dark did.
				if state>>cell%2 == 0 {
					mirrored |= 1 << (cell%b.columns*b.rows + cell/b.columns)
				}
			}
			other.mustLead(t, mirrored, impl.LightOk(state, b.columns, b.rows), impl.DarkOk(state, b.columns, b.rows))
		}
		mustBeNumber(t, "both boards", b, impl.CountDark(b.columns, b.rows)+impl.CountDark(b.rows, b.columns), b.states())
	}
}

// noBoard fails a test unless each function of boards returns its fixed result for what is no board.
func (b board) noBoard(t *testing.T) {
	t.Helper()
	for _, one := range []int{0, 1, 2, 3, 11, -1, math.MinInt, math.MaxInt} {
		for _, other := range []int{0, 1, 2, 4, 12, -1, math.MinInt, math.MaxInt} {
			b.mustTouch(t, one, other, false)
		}
	}
	for _, state := range []int{0, 1, 7, 511, 4095, -1, math.MinInt, math.MaxInt} {
		b.mustLead(t, state, false, false)
	}
	mustBeNumber(t, "CountDark", b, impl.CountDark(b.columns, b.rows), -1)
}

func TestWhatIsNoBoard(t *testing.T) {
	for _, b := range wrongBoards() {
		b.noBoard(t)
	}
}

func TestWrongCellsDoNotTouch(t *testing.T) {
	for _, b := range allBoards() {
		wrong := append(wrongNumbers(0, b.cells()), 12, 62, 63, 64, 65, -63, -64, 1<<62, -b.columns, b.cells()+b.columns)
		for _, one := range wrong {
			if one >= 0 && one < b.cells() {
				continue
			}
			for other := range b.cells() {
				b.mustTouch(t, one, other, false)
			}
			for _, other := range wrong {
				b.mustTouch(t, one, other, false)
			}
		}
	}
}

func TestWrongStatesOfBoards(t *testing.T) {
	for _, b := range allBoards() {
		all := b.states() - 1
		wrong := append(wrongNumbers(0, b.states()), 2*all+1, 2*b.states(), 3*b.states()-1, b.states()|1, -b.states(), 1<<12, 1<<12|all, 1<<62, 1<<62|all, math.MinInt|all)
		for _, state := range wrong {
			if state >= 0 && state < b.states() {
				t.Fatal("a state", b, state)
			}
			b.mustLead(t, state, false, false)
		}
	}
}

func TestBoardsKeepNoState(t *testing.T) {
	tell := func(b board, state int) [5]int {
		list := [5]int{impl.CountDark(b.columns, b.rows)}
		for at, ok := range []bool{impl.BoardOk(b.columns, b.rows), impl.TouchOk(state%13, state%5, b.columns, b.rows), impl.DarkOk(state, b.columns, b.rows), impl.LightOk(state, b.columns, b.rows)} {
			if ok {
				list[at+1] = 1
			}
		}
		return list
	}
	boards := append(allBoards(), wrongBoards()[:20]...)
	var first [][5]int
	for at, b := range boards {
		first = append(first, tell(b, at*37%statesOrSome(b)))
	}
	for at := len(boards) - 1; at >= 0; at-- {
		if got := tell(boards[at], at*37%statesOrSome(boards[at])); got != first[at] {
			t.Fatal("told otherwise", boards[at], got, first[at])
		}
	}
}

// statesOrSome returns how many states a board has, and some number for what is none.
func statesOrSome(b board) int {
	if !impl.BoardOk(b.columns, b.rows) {
		return 4096
	}
	return b.states()
}
