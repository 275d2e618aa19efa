package tests

import (
	"math"
	"math/rand"
	"slices"
	"testing"

	"loop.example/failingnets/impl"
)

// otherFold tells the determinant in another way: over all orders of the columns, the products of the numbers where the rows meet them, taken away if it takes an odd number of exchanges.
func otherFold(table [][]int) int {
	sum := 0
	for _, order := range allOrders(len(table)) {
		product := 1
		for at, column := range order {
			product *= table[at][column]
			for _, before := range order[:at] {
				if before > column {
					product = -product
				}
			}
		}
		sum += product
	}
	return sum
}

// isFold fails a test unless a table has such a determinant.
func isFold(t *testing.T, table [][]int, want int) {
	t.Helper()
	if got, ok := impl.FoldOf(table); !ok || got != want {
		t.Fatalf("determinant of %v: %d, %v, not %d", table, got, ok, want)
	}
}

// noFold fails a test if a table has a determinant.
func noFold(t *testing.T, table [][]int) {
	t.Helper()
	if got, ok := impl.FoldOf(table); ok || got != 0 {
		t.Fatal("a determinant", table, got, ok)
	}
}

// filled returns a table of so many rows, if a function tells each number by its row and column.
func filled(rows int, number func(row, column int) int) [][]int {
	table := make([][]int, rows)
	for row := range table {
		for column := range rows {
			table[row] = append(table[row], number(row, column))
		}
	}
	return table
}

// turned returns a table with rows for columns.
func turned(table [][]int) [][]int {
	return filled(len(table), func(row, column int) int { return table[column][row] })
}

// exchanged returns a table with two rows exchanged.
func exchanged(table [][]int, a, b int) [][]int {
	other := copyOfRows(table)
	other[a], other[b] = other[b], other[a]
	return other
}

// smallTables returns all tables of so many rows with no numbers but some.
func smallTables(rows int, numbers []int) [][][]int {
	many := 1
	for range rows * rows {
		many *= len(numbers)
	}
	var list [][][]int
	for at := range many {
		left := at
		list = append(list, filled(rows, func(int, int) int {
			number := numbers[left%len(numbers)]
			left /= len(numbers)
			return number
		}))
	}
	return list
}

// drawnTables returns tables of so many rows, drawn from a fixed beginning: with numbers of all sizes, with small ones, and with many that are 0, so that a first one is, and all of a column may be.
func drawnTables(rows int) [][][]int {
	draw := rand.New(rand.NewSource(int64(rows)))
	var list [][][]int
	for range 300 {
		list = append(list,
			filled(rows, func(int, int) int { return draw.Intn(41) - 20 }),
			filled(rows, func(int, int) int { return draw.Intn(3) - 1 }),
			filled(rows, func(int, int) int { return draw.Intn(2) * draw.Intn(2) * (draw.Intn(41) - 20) }),
			filled(rows, func(int, int) int { return 20 - 40*draw.Intn(2) }))
	}
	for _, table := range slices.Clone(list) {
		if rows < 2 {
			continue
		}
		// The first number is 0, and those below it to some row; and two rows are alike, or the one is the other one, taken away.
		zeros, alike := copyOfRows(table), copyOfRows(table)
		for row := range 1 + draw.Intn(rows) {
			zeros[row][0] = 0
		}
		a, b := draw.Intn(rows), draw.Intn(rows)
		copy(alike[a], alike[b])
		list = append(list, zeros, alike)
	}
	return list
}

// someTables returns tables of 0 up to 5 rows.
func someTables() [][][]int {
	list := [][][]int{nil, {}}
	list = append(list, smallTables(2, []int{-20, -1, 0, 1, 3, 20})...)
	list = append(list, smallTables(3, []int{0, 1})...)
	for number := -20; number <= 20; number++ {
		list = append(list, [][]int{{number}})
	}
	for rows := 2; rows <= 5; rows++ {
		list = append(list, drawnTables(rows)...)
	}
	return list
}

func TestPromise53TablesAreTheSameBothWays(t *testing.T) {
	for _, net := range treeNets() {
		table := impl.TableOf(net)
		mustBe(t, "rows of the table", net, len(table), net.Nodes-1)
		for row := range table {
			mustBe(t, "numbers of a row", net, len(table[row]), net.Nodes-1)
			for column := range table {
				mustBe(t, "row and column exchanged", net, table[row][column], table[column][row])
			}
			last := 0
			for _, edge := range net.Edges {
				if edge.A == row+1 && edge.B == net.Nodes {
					last++
				}
			}
			mustBe(t, "edges to the last node", net, sumOf(table[row]), last)
		}
	}
}

func TestTablesAreThoseFoundOtherwise(t *testing.T) {
	for _, net := range treeNets() {
		// Each edge adds to four places, if there were a row for the last node, too.
		var all [impl.MaxNodes + 1][impl.MaxNodes + 1]int
		for _, edge := range net.Edges {
			all[edge.A][edge.A]++
			all[edge.B][edge.B]++
			all[edge.A][edge.B]--
			all[edge.B][edge.A]--
		}
		table := impl.TableOf(net)
		mustBe(t, "rows of the table", net, len(table), net.Nodes-1)
		for at, row := range table {
			mustBeRow(t, "a row of the table", []any{net, at}, row, all[at+1][1:net.Nodes])
			mustBe(t, "EdgesAt", net, row[at], impl.EdgesAt(net, at+1))
		}
	}
}

func TestPromise54ExchangedRowsTakeTheOtherSign(t *testing.T) {
	for _, table := range someTables() {
		want := otherFold(table)
		isFold(t, table, want)
		isFold(t, turned(table), want)
		for a := range table {
			for b := range a {
				isFold(t, exchanged(table, a, b), -want)
				isFold(t, turned(exchanged(turned(table), a, b)), -want)
			}
		}
	}
}

func TestTableExamples(t *testing.T) {
	isTable(t, kite(), [][]int{{2, -1, -1}, {-1, 2, -1}, {-1, -1, 3}})
	isTable(t, fullNet(), [][]int{{2, -1, 0, 0, 0}, {-1, 4, 0, 0, -2}, {0, 0, 2, -1, -1}, {0, 0, -1, 2, 0}, {0, -2, -1, 0, 4}})
	isTable(t, netOf(3, [2]int{1, 2}, [2]int{1, 2}, [2]int{1, 3}), [][]int{{3, -2}, {-2, 2}})
	for many := range impl.MaxEdges + 1 {
		isTable(t, impl.Net{Nodes: 2, Edges: slices.Repeat(edges([2]int{1, 2}), many)}, [][]int{{many}})
		isTable(t, impl.Net{Nodes: 3, Edges: slices.Repeat(edges([2]int{1, 2}), many)}, [][]int{{many, -many}, {-many, many}})
		isTable(t, impl.Net{Nodes: 3, Edges: slices.Repeat(edges([2]int{2, 3}), many)}, [][]int{{0, 0}, {0, many}})
	}
	for nodes := 2; nodes <= impl.MaxNodes; nodes++ {
		for _, none := range [][]impl.Edge{nil, {}} {
			isTable(t, impl.Net{Nodes: nodes, Edges: none}, filled(nodes-1, func(int, int) int { return 0 }))
		}
	}
}

// isTable fails a test unless a net has such a table.
func isTable(t *testing.T, net impl.Net, want [][]int) {
	t.Helper()
	table := impl.TableOf(net)
	mustBe(t, "rows of the table", net, len(table), len(want))
	for at, row := range want {
		mustBeRow(t, "a row of the table", []any{net, at}, table[at], row)
	}
}

// foldCase is a table, and its determinant.
type foldCase struct {
	table [][]int
	want  int
}

func TestFoldExamples(t *testing.T) {
	for _, c := range []foldCase{
		{nil, 1},
		{[][]int{}, 1},
		{[][]int{{0}}, 0},
		{[][]int{{-20}}, -20},
		{[][]int{{20}}, 20},
		{[][]int{{1, 2}, {3, 4}}, -2},
		{[][]int{{0, 1}, {1, 0}}, -1},
		{[][]int{{0, 3}, {5, 7}}, -15},
		{[][]int{{0, 3}, {0, 7}}, 0},
		{[][]int{{2, -3}, {2, -3}}, 0},
		{[][]int{{20, 20}, {-20, 20}}, 800},
		{[][]int{{2, -1, -1}, {-1, 2, -1}, {-1, -1, 3}}, 3},
		{[][]int{{0, 0, 2}, {0, 3, 5}, {4, 1, 1}}, -24},
		{[][]int{{0, 1, 0}, {0, 0, 1}, {1, 0, 0}}, 1},
		{[][]int{{1, 2, 3}, {2, 4, 7}, {5, 1, 1}}, 9},
		{[][]int{{1, 2, 3}, {4, 5, 6}, {1, 2, 3}}, 0},
		{[][]int{{1, 2, 3}, {4, 5, 6}, {7, 8, 9}}, 0},
		{[][]int{{0, 0, 0, 1}, {0, 0, 1, 0}, {0, 1, 0, 0}, {1, 0, 0, 0}}, 1},
		{[][]int{{20, 20, 20, 20}, {20, -20, 20, -20}, {20, 20, -20, -20}, {20, -20, -20, 20}}, 2560000},
		{[][]int{{0, 20, 20, 20, 20}, {20, 0, 20, 20, 20}, {20, 20, 0, 20, 20}, {20, 20, 20, 0, 20}, {20, 20, 20, 20, 0}}, 12800000},
		{[][]int{{-20, 20, 20, 20, 20}, {20, -20, 20, 20, 20}, {20, 20, -20, 20, 20}, {20, 20, 20, -20, 20}, {20, 20, 20, 20, -20}}, 153600000},
		{filled(5, func(row, column int) int { return 20 - 40*min(1, max(0, row-column)) }), 51200000},
		{filled(5, func(int, int) int { return -20 }), 0},
		{filled(5, func(int, int) int { return 0 }), 0},
		{filled(5, func(row, column int) int { return row * column }), 0},
	} {
		isFold(t, c.table, c.want)
	}
}

func TestFoldOfGreatestAndLeastNumbers(t *testing.T) {
	for rows := 1; rows <= 5; rows++ {
		for row := range rows {
			for column := range rows {
				for _, far := range []int{-20, 20} {
					table := filled(rows, func(r, c int) int { return r + 2*c - r*c })
					table[row][column] = far
					isFold(t, table, otherFold(table))
					for _, tooFar := range []int{-21, 21, -22, 22, -100, 100, -1 << 32, 1<<32 + 1, math.MinInt, math.MinInt + 1, math.MaxInt, math.MaxInt - 1} {
						table[row][column] = tooFar
						noFold(t, table)
					}
				}
			}
		}
	}
}

func TestWhatIsNoTable(t *testing.T) {
	for rows := 1; rows <= 5; rows++ {
		for at := range rows {
			for _, many := range []int{0, 1, rows - 1, rows + 1, 5, 6, 100} {
				if many == rows {
					continue
				}
				table := filled(rows, func(row, column int) int { return row - column })
				table[at] = make([]int, many)
				noFold(t, table)
			}
			table := filled(rows, func(row, column int) int { return row - column })
			table[at] = nil
			noFold(t, table)
		}
		// All rows are as long as one another, but not as many.
		for _, many := range []int{0, rows - 1, rows + 1} {
			table := make([][]int, rows)
			for at := range table {
				table[at] = make([]int, many)
			}
			noFold(t, table)
		}
	}
	for _, rows := range []int{6, 7, 8, 100} {
		noFold(t, make([][]int, rows))
		noFold(t, filled(rows, func(int, int) int { return 0 }))
		noFold(t, filled(rows, func(row, column int) int { return max(0, 1-max(row-column, column-row)) }))
	}
	noFold(t, [][]int{{}})
	noFold(t, [][]int{nil})
	noFold(t, [][]int{{1, 2}})
	noFold(t, [][]int{{1}, {2}})
}

func TestInvalidNetsHaveNoTable(t *testing.T) {
	for _, net := range invalidNets() {
		if table := impl.TableOf(net); len(table) > 0 {
			t.Fatal("a table", net, table)
		}
	}
}

func TestTablesLeaveNetsAsTheyAreAndShareNoMemory(t *testing.T) {
	leavesNetsAsTheyAre(t, impl.TableOf)
}

func TestRowsOfATableShareNoMemory(t *testing.T) {
	for _, net := range treeNets() {
		table, want := impl.TableOf(net), impl.TableOf(net)
		for at, row := range table {
			mustBeRow(t, "a row behind others", []any{net, at}, row, want[at])
			overwriteRow(row)
		}
		// The rows themselves lie in memory of their own, too.
		other := impl.TableOf(net)
		all := table[:cap(table)]
		for at := range all {
			all[at] = nil
		}
		for at, row := range other {
			mustBeRow(t, "a later table", []any{net, at}, row, want[at])
		}
	}
}

// lentTable returns a table whose rows lie one behind the other in one memory, marked numbers between them, the rows themselves in longer memory with a marked one, and the memory of both.
func lentTable(table [][]int) ([][]int, [][]int, []int) {
	var memory []int
	for _, row := range table {
		memory = append(append(memory, row...), 71, 72)
	}
	var rows [][]int
	from := 0
	for _, row := range table {
		rows = append(rows, memory[from:from+len(row)])
		from += len(row) + 2
	}
	rows = append(rows, []int{73})
	return rows[:len(table)], rows, memory
}

func TestFoldLeavesTablesAsTheyAre(t *testing.T) {
	tables := append(someTables(), [][]int{{21}}, [][]int{{0, 1}, {1}}, filled(6, func(row, column int) int { return row + column }), [][]int{{0, 1, 2}, {1, 2, 3}, {4, 5, -21}})
	for _, table := range tables {
		lent, rows, memory := lentTable(table)
		beforeRows, beforeMemory := copyOfRows(rows), slices.Clone(memory)
		got, ok := impl.FoldOf(lent)
		again, okAgain := impl.FoldOf(lent)
		if got != again || ok != okAgain {
			t.Fatal("told otherwise", table, got, again)
		}
		if !slices.Equal(memory, beforeMemory) || !slices.EqualFunc(rows, beforeRows, slices.Equal[[]int]) {
			t.Fatal("written to", table, rows)
		}
	}
}

func TestFoldKeepsNoState(t *testing.T) {
	tables := someTables()
	var first []int
	for _, table := range tables {
		count, _ := impl.FoldOf(table)
		first = append(first, count)
		noFold(t, [][]int{{21}})
	}
	for at, table := range slices.Backward(tables) {
		isFold(t, table, first[at])
	}
}

func TestOneRowThriceInATable(t *testing.T) {
	// A table may have the same memory for several rows.
	for _, row := range [][]int{{1, 2, 3}, {0, 2, 3}, {0, 0, 0}, {-20, 20, 20}} {
		isFold(t, [][]int{row, row, row}, 0)
	}
	table := [][]int{{0, 2}, {3, 4}}
	isFold(t, table, -6)
	isFold(t, [][]int{table[1], table[0]}, 6)
}
