package tests

import (
	"math"
	"slices"
	"testing"

	"loop.example/failingnets/impl"
)

// factorials returns how many orders there are of 0 up to 10 numbers.
func factorials() []int {
	return []int{1, 1, 2, 6, 24, 120, 720, 5040, 40320, 362880, 3628800}
}

// sortedOrders finds all orders of so many numbers in another way: all that there are, sorted.
func sortedOrders(many int) [][]int {
	list := allOrders(many)
	slices.SortFunc(list, slices.Compare[[]int])
	return list
}

// backward returns an order from the last number to the first one.
func backward(order []int) []int {
	turned := slices.Clone(order)
	slices.Reverse(turned)
	return turned
}

// rowsBetween returns all rows of so many numbers, each from a least one up to a greatest one.
func rowsBetween(many, least, greatest int) [][]int {
	list := [][]int{nil}
	for range many {
		var longer [][]int
		for _, row := range list {
			for number := least; number <= greatest; number++ {
				longer = append(longer, append(slices.Clone(row), number))
			}
		}
		list = longer
	}
	return list
}

// hasEach reports whether a row has each number less than so many, just once.
func hasEach(row []int, many int) bool {
	sorted := slices.Clone(row)
	slices.Sort(sorted)
	return slices.Equal(sorted, allNumbers(many))
}

// wrongOrders returns what is no order of so many numbers: too few or too many of them, and in each place one that is there twice, is too great, or is below 0.
func wrongOrders(many int) [][]int {
	list := [][]int{allNumbers(many + 1), append(allNumbers(many), 0), make([]int, many+1), make([]int, 1000)}
	if many > 0 {
		list = append(list, nil, []int{}, allNumbers(many-1), allNumbers(many)[1:])
	}
	for at := range many {
		for _, number := range append(wrongNumbers(0, many), 31, 32, 62, 63, 64, 65, 1<<31, 1<<62, -62, -63, -64, math.MinInt|at, 1<<32|at, 1<<62|at, 64|at, -64|at) {
			list = append(list, spoiledOrder(many, at, number))
		}
		for number := range many {
			if number != at {
				list = append(list, spoiledOrder(many, at, number))
			}
		}
	}
	return list
}

// spoiledOrder returns the first order of so many numbers, but with another number at a place.
func spoiledOrder(many, at, number int) []int {
	row := allNumbers(many)
	row[at] = number
	return row
}

// wrongLengths returns numbers of which there are no orders.
func wrongLengths() []int {
	return append(wrongNumbers(0, impl.MaxOrdered+1), 8, 9, 10, 11, 12, 20, 21, 31, 32, 62, 63, 64, 65, 1<<31, 1<<62, -63, -64)
}

// isOrder fails a test unless something is an order of so many numbers, or is not, as is wanted; and so read from the last number to the first one.
func isOrder(t *testing.T, order []int, many int, want bool) {
	t.Helper()
	if impl.OrderOk(order, many) != want || impl.OrderOk(backward(order), many) != want {
		t.Fatal("OrderOk", order, many, want)
	}
}

// orderAt returns the order at a place, which must be there.
func orderAt(t *testing.T, many, at int) []int {
	t.Helper()
	order, ok := impl.OrderAt(many, at)
	if !ok {
		t.Fatal("no order", many, at)
	}
	return order
}

// noOrder fails a test if there is an order of so many numbers at a place.
func noOrder(t *testing.T, many, at int) {
	t.Helper()
	if order, ok := impl.OrderAt(many, at); ok || len(order) != 0 {
		t.Fatal("OrderAt", many, at, order, ok)
	}
}

func TestConstantOfOrders(t *testing.T) {
	if impl.MaxOrdered != 6 {
		t.Fatal(impl.MaxOrdered)
	}
}

func TestPromise79FactorialsAreMultiplied(t *testing.T) {
	mustBeNumber(t, "FactorialOf", 0, impl.FactorialOf(0), 1)
	for n := range 10 {
		mustBeNumber(t, "FactorialOf one more than", n, impl.FactorialOf(n+1), (n+1)*impl.FactorialOf(n))
	}
	for n, want := range factorials() {
		mustBeNumber(t, "FactorialOf", n, impl.FactorialOf(n), want)
	}
}

func TestWrongNumbersHaveNoFactorial(t *testing.T) {
	for _, wrong := range append(wrongNumbers(0, 11), 12, 13, 20, 21, 64, 65, 66, -10, -11, 1<<31, 1<<62) {
		mustBeNumber(t, "FactorialOf", wrong, impl.FactorialOf(wrong), -1)
	}
}

func TestPromise80OrdersHaveEachNumber(t *testing.T) {
	isOrder(t, nil, 0, true)
	isOrder(t, []int{}, 0, true)
	for long := range 5 {
		for _, row := range rowsBetween(long, -1, long) {
			for many := range impl.MaxOrdered + 1 {
				isOrder(t, row, many, hasEach(row, many))
			}
		}
	}
	for many := 5; many <= impl.MaxOrdered; many++ {
		for _, row := range rowsBetween(many, 0, many-1) {
			isOrder(t, row, many, hasEach(row, many))
		}
	}
}

func TestOrdersOfAllLengths(t *testing.T) {
	for many := range impl.MaxOrdered + 1 {
		for _, order := range allOrders(many) {
			for length := -1; length <= 10; length++ {
				isOrder(t, order, length, length == many)
			}
		}
	}
}

func TestWhatIsNoOrder(t *testing.T) {
	for many := range impl.MaxOrdered + 1 {
		for _, row := range wrongOrders(many) {
			isOrder(t, row, many, false)
		}
	}
	rows := [][]int{nil, {}, {0}, {0, 1}, allNumbers(6), allNumbers(7), allNumbers(64), make([]int, 65)}
	for _, row := range rows {
		isOrder(t, row, len(row), len(row) <= impl.MaxOrdered)
		for _, wrong := range wrongLengths() {
			isOrder(t, row, wrong, false)
		}
	}
	for _, wrong := range wrongLengths() {
		if wrong > 0 && wrong < 100 {
			isOrder(t, allNumbers(wrong), wrong, false)
		}
	}
}

func TestPromise81EachPlaceTellsItsOrder(t *testing.T) {
	for many := range impl.MaxOrdered + 1 {
		var before []int
		for at := range factorials()[many] {
			order := orderAt(t, many, at)
			isOrder(t, order, many, true)
			mustBeNumber(t, "OrderPlace", order, impl.OrderPlace(order), at)
			if at > 0 && slices.Compare(before, order) >= 0 {
				t.Fatal("a lesser number, or the same, where both first differ", before, order)
			}
			before = order
		}
	}
}

func TestPromise82EachOrderHasItsPlace(t *testing.T) {
	for many := range impl.MaxOrdered + 1 {
		for _, order := range allOrders(many) {
			at := impl.OrderPlace(order)
			if at < 0 || at >= impl.FactorialOf(many) {
				t.Fatal("no place of an order", order, at)
			}
			mustBeRow(t, "OrderAt", []int{many, at}, orderAt(t, many, at), order)
		}
	}
}

func TestOrdersAreThoseFoundOtherwise(t *testing.T) {
	for many := range impl.MaxOrdered + 1 {
		for at, order := range sortedOrders(many) {
			mustBeRow(t, "OrderAt", []int{many, at}, orderAt(t, many, at), order)
			mustBeNumber(t, "OrderPlace", order, impl.OrderPlace(order), at)
		}
	}
}

func TestOrderExamples(t *testing.T) {
	for _, c := range []struct {
		order []int
		at    int
	}{
		{nil, 0},
		{[]int{0}, 0},
		{[]int{0, 1}, 0},
		{[]int{1, 0}, 1},
		{[]int{0, 2, 1}, 1},
		{[]int{1, 2, 0}, 3},
		{[]int{2, 0, 1}, 4},
		{[]int{0, 3, 1, 2}, 4},
		{[]int{3, 0, 2, 1}, 19},
		{[]int{2, 0, 4, 1, 3}, 52},
		{[]int{1, 0, 2, 3, 4, 5}, 120},
		{[]int{0, 5, 4, 3, 2, 1}, 119},
		{[]int{3, 5, 0, 4, 1, 2}, 360 + 96 + 4},
		{[]int{5, 4, 3, 2, 0, 1}, 718},
	} {
		mustBeRow(t, "OrderAt", c.at, orderAt(t, len(c.order), c.at), c.order)
		mustBeNumber(t, "OrderPlace", c.order, impl.OrderPlace(c.order), c.at)
	}
}

func TestTheFirstPlaceAndTheLastOne(t *testing.T) {
	for many := range impl.MaxOrdered + 1 {
		last := factorials()[many] - 1
		mustBeRow(t, "the first order", many, orderAt(t, many, 0), allNumbers(many))
		mustBeRow(t, "the last order", many, orderAt(t, many, last), backward(allNumbers(many)))
		mustBeNumber(t, "the first place", many, impl.OrderPlace(allNumbers(many)), 0)
		mustBeNumber(t, "the last place", many, impl.OrderPlace(backward(allNumbers(many))), last)
	}
}

func TestWrongPlacesHaveNoOrder(t *testing.T) {
	for many := range impl.MaxOrdered + 1 {
		end := factorials()[many]
		for _, wrong := range append(wrongNumbers(0, end), 2*end, 720, 721, 5040, 1<<31, 1<<62, -end, math.MinInt+end) {
			noOrder(t, many, wrong)
		}
	}
}

func TestWrongLengthsHaveNoOrder(t *testing.T) {
	for _, wrong := range wrongLengths() {
		for _, at := range []int{math.MinInt, -2, -1, 0, 1, 2, 719, 720, 5039, 1 << 32, math.MaxInt} {
			noOrder(t, wrong, at)
		}
	}
}

func TestWhatIsNoOrderHasNoPlace(t *testing.T) {
	for many := range impl.MaxOrdered + 1 {
		for _, row := range wrongOrders(many) {
			// A row may be an order of another number of numbers than this.
			if !hasEach(row, len(row)) || len(row) > impl.MaxOrdered {
				mustBeNumber(t, "OrderPlace", row, impl.OrderPlace(row), -1)
				mustBeNumber(t, "OrderPlace", row, impl.OrderPlace(backward(row)), -1)
			}
		}
	}
	for _, row := range append(rowsBetween(3, -1, 3), rowsBetween(4, 0, 4)...) {
		if !hasEach(row, len(row)) {
			mustBeNumber(t, "OrderPlace", row, impl.OrderPlace(row), -1)
		}
	}
	for _, long := range wrongLengths() {
		if long > 0 && long < 100 {
			mustBeNumber(t, "OrderPlace", long, impl.OrderPlace(allNumbers(long)), -1)
		}
	}
}

func TestOrdersAreNotWrittenTo(t *testing.T) {
	rows := [][]int{nil, {0}, {1}, {1, 0}, {2, 0, 1}, {2, 2, 1}, allNumbers(6), backward(allNumbers(6)), backward(allNumbers(7))}
	for _, row := range rows {
		lent, memory := lentRow(row)
		before := slices.Clone(memory)
		impl.OrderOk(lent, len(lent))
		impl.OrderOk(lent, len(lent)+1)
		impl.OrderPlace(lent)
		mustBeRow(t, "written to", row, memory, before)
	}
}

func TestOrdersShareNoMemory(t *testing.T) {
	for many := range impl.MaxOrdered + 1 {
		for at, want := range sortedOrders(many) {
			first, second := orderAt(t, many, at), orderAt(t, many, at)
			overwriteRow(first)
			mustBeRow(t, "another result", at, second, want)
			mustBeRow(t, "a later result", at, orderAt(t, many, at), want)
			overwriteRow(second)
		}
	}
}

// tellOrders returns all that chapter 12 tells of numbers and an order.
func tellOrders(many, at int, order []int) []int {
	row := []int{impl.FactorialOf(many), impl.OrderPlace(order), 0, 0}
	if impl.OrderOk(order, many) {
		row[2] = 1
	}
	found, ok := impl.OrderAt(many, at)
	if ok {
		row[3] = 1
	}
	return append(row, found...)
}

func TestOrdersKeepNoState(t *testing.T) {
	rows := append(sortedOrders(4), rowsBetween(2, -1, 2)...)
	tell := func(at int) []int {
		return tellOrders(at%9-1, at%50-2, rows[at%len(rows)])
	}
	var first [][]int
	for at := range 500 {
		first = append(first, tell(at))
	}
	for at, want := range slices.Backward(first) {
		mustBeRow(t, "told otherwise", at, tell(at), want)
	}
}
