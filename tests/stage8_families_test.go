package tests

import (
	"math"
	"math/bits"
	"math/rand"
	"slices"
	"testing"

	"loop.example/failingnets/impl"
)

// stateSet tells a family by all its states: the bit at a state is 1 if the state is in it.
type stateSet struct {
	things int
	in     uint64
}

// has reports whether a state is in a family.
func (s stateSet) has(state int) bool {
	return s.in>>state%2 == 1
}

// count returns how many states are in a family.
func (s stateSet) count() int {
	return bits.OnesCount64(s.in)
}

// all returns how many states so many things have.
func (s stateSet) all() int {
	return 1 << s.things
}

// least finds the least states: those that are not in the family without any one of their things.
func (s stateSet) least() []int {
	var list []int
	for state := range s.all() {
		if s.has(state) && !slices.ContainsFunc(withOneLess(state), s.has) {
			list = append(list, state)
		}
	}
	return list
}

// family returns the family as it is told by its least states.
func (s stateSet) family() impl.Family {
	return impl.Family{Things: s.things, Least: s.least()}
}

// setWhere returns the family of all states of so many things of which something is true.
func setWhere(things int, in func(state int) bool) stateSet {
	set := stateSet{things: things}
	for state := range 1 << things {
		if in(state) {
			set.in |= 1 << state
		}
	}
	return set
}

// blocker returns the family of all states that have something in common with each state of a family.
func (s stateSet) blocker() stateSet {
	return setWhere(s.things, func(state int) bool {
		for other := range s.all() {
			if s.has(other) && state&other == 0 {
				return false
			}
		}
		return true
	})
}

// withOneLess returns what is left of a state without any one of its things.
func withOneLess(state int) []int {
	var list []int
	for at := range impl.MaxThings {
		if state>>at%2 == 1 {
			list = append(list, state-1<<at)
		}
	}
	return list
}

// none returns the family of no states, and every that of all states, of so many things.
func none(things int) stateSet {
	return stateSet{things: things}
}

func every(things int) stateSet {
	return setWhere(things, func(int) bool { return true })
}

// sized returns the family of all states with so many things or more.
func sized(things, least int) stateSet {
	return setWhere(things, func(state int) bool { return bits.OnesCount(uint(state)) >= least })
}

// allSets returns all families of so many things, up to 5: each is put together from the states without the last thing that are in it, and those that are in it with the last thing, which are not fewer.
func allSets(things int) []stateSet {
	if things == 0 {
		return []stateSet{none(0), every(0)}
	}
	before := allSets(things - 1)
	var list []stateSet
	for _, without := range before {
		for _, with := range before {
			if without.in&^with.in == 0 {
				list = append(list, stateSet{things, without.in | with.in<<without.all()})
			}
		}
	}
	return list
}

// drawnSets returns so many families of 6 things, each made of two families of 5 things, drawn from a fixed beginning.
func drawnSets(many int) []stateSet {
	draw := rand.New(rand.NewSource(8))
	fives := allSets(5)
	var list []stateSet
	for range many {
		a, b := fives[draw.Intn(len(fives))], fives[draw.Intn(len(fives))]
		list = append(list, stateSet{6, a.in&b.in | (a.in|b.in)<<32})
	}
	return list
}

// markedSets returns for so many things the families of no states, of all states, of all states of a size or more, and of all states with one thing.
func markedSets(things int) []stateSet {
	list := []stateSet{none(things), every(things)}
	for least := range things + 1 {
		list = append(list, sized(things, least))
	}
	for at := range things {
		list = append(list, setWhere(things, func(state int) bool { return state>>at%2 == 1 }))
	}
	return list
}

// manySets returns all families of at most 4 things, some of 5, and drawn ones of 6.
func manySets() []stateSet {
	var list []stateSet
	for things := range 5 {
		list = append(list, allSets(things)...)
	}
	for at, set := range allSets(5) {
		if at%7 == 0 {
			list = append(list, set)
		}
	}
	list = append(list, markedSets(5)...)
	list = append(list, markedSets(impl.MaxThings)...)
	return append(list, drawnSets(1000)...)
}

// mustBeFamily fails a test if a family is not the wanted one, with true beside it.
func mustBeFamily(t *testing.T, what string, about any, got impl.Family, ok bool, want stateSet) {
	t.Helper()
	if !ok || got.Things != want.things || !slices.Equal(got.Least, want.least()) {
		t.Fatalf("%s of %v: %v, %v, not %v", what, about, got, ok, want.family())
	}
}

// noFamily fails a test if something is given back beside the zero value and false.
func noFamily(t *testing.T, what string, about any, got impl.Family, ok bool) {
	t.Helper()
	if ok || got.Things != 0 || len(got.Least) != 0 {
		t.Fatalf("%s of %v: %v, %v", what, about, got, ok)
	}
}

// mustBlock returns the blocker of a family, and fails a test if it has none.
func mustBlock(t *testing.T, f impl.Family) impl.Family {
	t.Helper()
	blocker, ok := impl.BlockerOf(f)
	if !ok || !impl.FamilyOk(blocker) {
		t.Fatal("no blocker", f, blocker, ok)
	}
	return blocker
}

// sameFamily reports whether two families are the same, nil and empty slices being the same.
func sameFamily(f, g impl.Family) bool {
	return f.Things == g.Things && slices.Equal(f.Least, g.Least)
}

// numbersAround returns all states of so many things, and numbers that tell none.
func numbersAround(things int) []int {
	list := wrongNumbers(0, 1<<things)
	list = append(list, 2<<things-1, 1<<things|1, 1<<62, 1<<62|1, math.MinInt|1, 63, 64, 65, 127)
	for state := range 1 << things {
		list = append(list, state)
	}
	return list
}

func TestPromise42NoStatesAreAFamily(t *testing.T) {
	for things := range impl.MaxThings + 1 {
		for _, least := range [][]int{nil, {}} {
			empty := impl.Family{Things: things, Least: least}
			if !impl.FamilyOk(empty) {
				t.Fatal("no states are no family", things)
			}
			for _, state := range numbersAround(things) {
				if impl.InOk(empty, state) {
					t.Fatal("in the family of no states", things, state)
				}
			}
			mustBeNumber(t, "CountIn", empty, impl.CountIn(empty), 0)
		}
		full := impl.Family{Things: things, Least: []int{0}}
		if !impl.FamilyOk(full) {
			t.Fatal("all states are no family", things)
		}
		for _, state := range numbersAround(things) {
			if impl.InOk(full, state) != (0 <= state && state < 1<<things) {
				t.Fatal("not all states are in the family of all", things, state)
			}
		}
		mustBeNumber(t, "CountIn", full, impl.CountIn(full), 1<<things)
	}
}

func TestPromise43WhatWorksGoesOnWorking(t *testing.T) {
	for _, set := range manySets() {
		f := set.family()
		for state := range set.all() {
			if !impl.InOk(f, state) {
				continue
			}
			for at := range set.things {
				if !impl.InOk(f, state|1<<at) {
					t.Fatal("not with a thing more", f, state, at)
				}
			}
		}
		for _, least := range f.Least {
			if !impl.InOk(f, least) || slices.ContainsFunc(withOneLess(least), func(state int) bool { return impl.InOk(f, state) }) {
				t.Fatal("a least state that is not in, or in with a thing less", f, least)
			}
		}
	}
}

// stateLists returns lists of at most 64 states of so many things, in no order, equal ones among them.
func stateLists(things int) [][]int {
	draw := rand.New(rand.NewSource(int64(things)))
	all := 1 << things
	list := [][]int{nil, {}, slices.Repeat([]int{all - 1}, 64), slices.Repeat([]int{0}, 64)}
	for many := range 65 {
		var drawn []int
		for range many {
			drawn = append(drawn, draw.Intn(all))
		}
		list = append(list, drawn)
		// With more things in each state fewer have all things of another one.
		var fuller []int
		for _, state := range drawn {
			fuller = append(fuller, state|draw.Intn(all))
		}
		list = append(list, fuller)
	}
	return list
}

func TestPromise44LeastStatesAreEnough(t *testing.T) {
	for things := range impl.MaxThings + 1 {
		for _, list := range stateLists(things) {
			f, ok := impl.FamilyFrom(things, list)
			if !ok || f.Things != things || !impl.FamilyOk(f) {
				t.Fatal("no family", things, list, f, ok)
			}
			for _, state := range list {
				if !impl.InOk(f, state) {
					t.Fatal("without a state of the list", things, list, f, state)
				}
			}
			for _, least := range f.Least {
				if !slices.Contains(list, least) {
					t.Fatal("a least state that is not of the list", things, list, f, least)
				}
			}
			again, ok := impl.FamilyFrom(things, f.Least)
			if !ok || !sameFamily(again, f) {
				t.Fatal("made from its least states it is another one", things, list, f, again)
			}
		}
	}
}

func TestPromise45AFamilyAndWhatDoesNotBlockItAreAllStates(t *testing.T) {
	for _, set := range manySets() {
		f := set.family()
		count := impl.CountIn(f)
		mustBeNumber(t, "both together", f, count+impl.CountIn(mustBlock(t, f)), 1<<f.Things)
		if (count == 0) != (len(f.Least) == 0) {
			t.Fatal("none without least states, and only then", f, count)
		}
	}
}

func TestPromise46WhatBlocksTheBlockerIsTheFamily(t *testing.T) {
	for _, set := range manySets() {
		f := set.family()
		blocker := mustBlock(t, f)
		if again := mustBlock(t, blocker); !sameFamily(again, f) {
			t.Fatal("another family", f, blocker, again)
		}
		for state := range set.all() {
			if impl.InOk(blocker, state) == impl.InOk(f, set.all()-1-state) {
				t.Fatal("a state and that of the other things", f, blocker, state)
			}
		}
	}
}

func TestFamiliesAreThoseFoundOtherwise(t *testing.T) {
	for _, set := range append(manySets(), allSets(5)...) {
		f := set.family()
		if !impl.FamilyOk(f) {
			t.Fatal("no family", f)
		}
		for _, state := range numbersAround(set.things) {
			if impl.InOk(f, state) != (0 <= state && state < set.all() && set.has(state)) {
				t.Fatal("in, or not", f, state)
			}
		}
		mustBeNumber(t, "CountIn", f, impl.CountIn(f), set.count())
		blocker, ok := impl.BlockerOf(f)
		mustBeFamily(t, "BlockerOf", f, blocker, ok, set.blocker())
	}
}

func TestFamiliesFromListsAreThoseFoundOtherwise(t *testing.T) {
	for things := range impl.MaxThings + 1 {
		for _, list := range stateLists(things) {
			want := setWhere(things, func(state int) bool {
				return slices.ContainsFunc(list, func(part int) bool { return allOf(state, part) })
			})
			got, ok := impl.FamilyFrom(things, list)
			mustBeFamily(t, "FamilyFrom", list, got, ok, want)
		}
	}
	// From all its states a family is itself, the other way round, too.
	for _, set := range manySets() {
		states := slices.DeleteFunc(allNumbers(set.all()), func(state int) bool { return !set.has(state) })
		got, ok := impl.FamilyFrom(set.things, states)
		mustBeFamily(t, "FamilyFrom", states, got, ok, set)
		slices.Reverse(states)
		got, ok = impl.FamilyFrom(set.things, states)
		mustBeFamily(t, "FamilyFrom", states, got, ok, set)
	}
}

// allNumbers returns all numbers from 0 on that are less than one.
func allNumbers(end int) []int {
	var list []int
	for number := range end {
		list = append(list, number)
	}
	return list
}

// listCase is a list of states of so many things, and the least states of the family of it.
type listCase struct {
	things int
	list   []int
	least  []int
}

func TestFamilyExamples(t *testing.T) {
	for _, c := range []listCase{
		{3, []int{3, 7, 4}, []int{3, 4}},
		{3, []int{5, 5}, []int{5}},
		{3, []int{6, 1, 6, 1, 1}, []int{1, 6}},
		{3, []int{4, 2, 1}, []int{1, 2, 4}},
		{3, []int{7, 6, 4}, []int{4}},
		{3, []int{4, 6, 7}, []int{4}},
		{3, []int{6, 0, 1}, []int{0}},
		{3, nil, nil},
		{0, nil, nil},
		{0, []int{0}, []int{0}},
		{0, slices.Repeat([]int{0}, 64), []int{0}},
		{1, []int{1, 1}, []int{1}},
		{1, []int{1, 0}, []int{0}},
		{6, []int{63, 32, 48, 31, 15}, []int{15, 32}},
		{6, allNumbers(64), []int{0}},
		{6, allNumbers(64)[1:], []int{1, 2, 4, 8, 16, 32}},
	} {
		got, ok := impl.FamilyFrom(c.things, c.list)
		if !ok || got.Things != c.things {
			t.Fatal("no family", c, got, ok)
		}
		mustBeRow(t, "FamilyFrom", c, got.Least, c.least)
	}
}

func TestBlockerExamples(t *testing.T) {
	halves := allOfSize(6, 3)
	for _, c := range []listCase{
		{3, []int{3, 4}, []int{5, 6}},
		{3, []int{5, 6}, []int{3, 4}},
		{3, []int{3, 5, 6}, []int{3, 5, 6}},
		{3, []int{7}, []int{1, 2, 4}},
		{3, nil, []int{0}},
		{3, []int{0}, nil},
		{0, nil, []int{0}},
		{0, []int{0}, nil},
		{1, []int{1}, []int{1}},
		{4, []int{11, 12}, []int{5, 6, 8}},
		{6, []int{1, 2, 4, 8, 16, 32}, []int{63}},
		{6, []int{3, 12, 48}, []int{21, 22, 25, 26, 37, 38, 41, 42}},
		{6, halves, allOfSize(6, 4)},
	} {
		got, ok := impl.BlockerOf(impl.Family{Things: c.things, Least: c.list})
		if !ok || got.Things != c.things {
			t.Fatal("no blocker", c, got, ok)
		}
		mustBeRow(t, "BlockerOf", c, got.Least, c.least)
	}
	mustBeNumber(t, "states of half the size", halves, len(halves), 20)
	mustBeNumber(t, "CountIn", halves, impl.CountIn(impl.Family{Things: 6, Least: halves}), 42)
}

// allOfSize returns all states of so many things with so many of them, in ascending order.
func allOfSize(things, size int) []int {
	return slices.DeleteFunc(allNumbers(1<<things), func(state int) bool { return bits.OnesCount(uint(state)) != size })
}

// wrongThings returns what is no number of things.
func wrongThings() []int {
	return append(wrongNumbers(0, impl.MaxThings+1), 8, 9, 31, 32, 33, 62, 63, 64, 65, 1<<62, -63, -64)
}

// wrongStates returns what is no state of so many things: below 0, or with a thing too many.
func wrongStates(things int) []int {
	all := 1 << things
	return append(wrongNumbers(0, all), all|1, 2*all-1, 1<<31, 1<<62, 1<<62|1, -all, math.MinInt|1, math.MinInt|(all-1))
}

// wrongFamilies returns what is no family.
func wrongFamilies() []impl.Family {
	var list []impl.Family
	for _, things := range wrongThings() {
		for _, least := range [][]int{nil, {}, {0}, {1}, {1, 2}, {things}, {-1}, {64}} {
			list = append(list, impl.Family{Things: things, Least: least})
		}
	}
	for things := range impl.MaxThings + 1 {
		for _, wrong := range wrongStates(things) {
			list = append(list, impl.Family{Things: things, Least: []int{wrong}}, impl.Family{Things: things, Least: []int{0, wrong}}, impl.Family{Things: things, Least: []int{wrong, 0}})
		}
		for _, set := range append(allSets(min(things, 3)), markedSets(things)...) {
			list = append(list, spoiled(set.family())...)
		}
		list = append(list, impl.Family{Things: things, Least: allNumbers(65)}, impl.Family{Things: things, Least: slices.Repeat([]int{0}, 65)}, impl.Family{Things: things, Least: slices.Repeat([]int{1<<things - 1}, 1000)})
	}
	return append(list,
		impl.Family{Things: 2, Least: []int{1, 3}}, impl.Family{Things: 2, Least: []int{2, 1}}, impl.Family{Things: 2, Least: []int{1, 1}},
		impl.Family{Things: 2, Least: []int{0, 1, 2, 3}}, impl.Family{Things: 3, Least: []int{3, 4, 5}}, impl.Family{Things: 3, Least: []int{4, 3}},
		impl.Family{Things: 6, Least: []int{3, 12, 48, 51}}, impl.Family{Things: 6, Least: []int{3, 48, 12}}, impl.Family{Things: 6, Least: []int{31, 32, 63}})
}

// spoiled returns a family with a state that comes twice, with one that has all things of another one, with one that is none in each place, and in another order.
func spoiled(f impl.Family) []impl.Family {
	var list []impl.Family
	for at, state := range f.Least {
		list = append(list, impl.Family{Things: f.Things, Least: slices.Insert(slices.Clone(f.Least), at, state)})
		for _, more := range allNumbers(1 << f.Things) {
			if allOf(more, state) {
				sorted := slices.Sorted(slices.Values(append([]int{more}, f.Least...)))
				list = append(list, impl.Family{Things: f.Things, Least: sorted})
			}
		}
		for _, wrong := range []int{-1, 1 << f.Things, math.MinInt | state, 1<<62 | state} {
			other := slices.Clone(f.Least)
			other[at] = wrong
			list = append(list, impl.Family{Things: f.Things, Least: other}, impl.Family{Things: f.Things, Least: slices.Sorted(slices.Values(other))})
		}
		if at > 0 {
			swapped := slices.Clone(f.Least)
			swapped[at-1], swapped[at] = state, swapped[at-1]
			list = append(list, impl.Family{Things: f.Things, Least: swapped})
		}
	}
	return list
}

func TestWhatIsNoFamily(t *testing.T) {
	good, otherGood := every(3).family(), none(0).family()
	for _, wrong := range wrongFamilies() {
		if impl.FamilyOk(wrong) {
			t.Fatal("a family", wrong)
		}
		for _, state := range []int{0, 1, 3, 7, 63, 64, -1, math.MinInt, math.MaxInt, wrong.Things} {
			if impl.InOk(wrong, state) {
				t.Fatal("in what is no family", wrong, state)
			}
		}
		mustBeNumber(t, "CountIn", wrong, impl.CountIn(wrong), -1)
		got, ok := impl.BlockerOf(wrong)
		noFamily(t, "BlockerOf", wrong, got, ok)
		same := impl.Family{Things: wrong.Things, Least: []int{0}}
		for _, other := range []impl.Family{good, otherGood, same, wrong} {
			noJoined(t, wrong, other)
		}
	}
}

func TestListsThatMakeNoFamily(t *testing.T) {
	for _, things := range wrongThings() {
		for _, list := range [][]int{nil, {}, {0}, {1}, {0, 0}, {things}, {-1}, {1 << 62}} {
			got, ok := impl.FamilyFrom(things, list)
			noFamily(t, "FamilyFrom", []any{things, list}, got, ok)
		}
	}
	for things := range impl.MaxThings + 1 {
		all := 1 << things
		for _, wrong := range wrongStates(things) {
			for _, list := range [][]int{{wrong}, {0, wrong}, {wrong, all - 1}, {all - 1, wrong, 0}, append(slices.Repeat([]int{0}, 63), wrong)} {
				got, ok := impl.FamilyFrom(things, list)
				noFamily(t, "FamilyFrom", []any{things, list}, got, ok)
			}
		}
		for _, many := range []int{65, 66, 128, 1000} {
			got, ok := impl.FamilyFrom(things, slices.Repeat([]int{all - 1}, many))
			noFamily(t, "FamilyFrom", []any{things, many}, got, ok)
		}
	}
	got, ok := impl.FamilyFrom(6, append(allNumbers(64), 0))
	noFamily(t, "FamilyFrom", 65, got, ok)
}

// lentFamily returns a family whose least states lie in longer memory, with marked numbers behind them, and that memory.
func lentFamily(f impl.Family) (impl.Family, []int) {
	least, memory := lentRow(f.Least)
	return impl.Family{Things: f.Things, Least: least}, memory
}

// shareNothing fails a test if telling families writes to the memory of what they are told of, or if a family shares memory with that or with another one.
func shareNothing(t *testing.T, about any, memory []int, tell func() []impl.Family) {
	t.Helper()
	before := slices.Clone(memory)
	first, second := tell(), tell()
	var want []impl.Family
	for at, f := range second {
		want = append(want, impl.Family{Things: f.Things, Least: slices.Clone(f.Least)})
		overwriteRow(first[at].Least)
		for _, later := range first[at+1:] {
			if slices.Contains(later.Least, -77) {
				t.Fatal("two results share memory", about, at)
			}
		}
	}
	if !slices.Equal(memory, before) {
		t.Fatal("written to", about, memory)
	}
	third := tell()
	overwriteRow(memory)
	for at, f := range second {
		if !sameFamily(f, want[at]) || !sameFamily(third[at], want[at]) {
			t.Fatal("another result", about, f, third[at], want[at])
		}
	}
}

func TestFamiliesLeaveRowsAsTheyAreAndShareNoMemory(t *testing.T) {
	for _, set := range append(manySets(), none(6), every(6)) {
		f, memory := lentFamily(set.family())
		shareNothing(t, set.family(), memory, func() []impl.Family {
			impl.FamilyOk(f)
			impl.InOk(f, set.all()-1)
			impl.CountIn(f)
			blocker, _ := impl.BlockerOf(f)
			from, _ := impl.FamilyFrom(f.Things, f.Least)
			return []impl.Family{blocker, from}
		})
	}
	for _, wrong := range append(wrongFamilies(), impl.Family{Things: 3, Least: []int{7, 3, 1, 1, 0}}) {
		f, memory := lentFamily(wrong)
		shareNothing(t, wrong, memory, func() []impl.Family {
			impl.FamilyOk(f)
			impl.InOk(f, 0)
			impl.CountIn(f)
			blocker, _ := impl.BlockerOf(f)
			from, _ := impl.FamilyFrom(f.Things, f.Least)
			return []impl.Family{blocker, from}
		})
	}
}

func TestFamiliesKeepNoState(t *testing.T) {
	var list []impl.Family
	for _, set := range manySets() {
		list = append(list, set.family())
	}
	for at, wrong := range wrongFamilies() {
		list = slices.Insert(list, at*2%len(list), wrong)
	}
	tell := func(f impl.Family) []int {
		row := []int{impl.CountIn(f)}
		for _, ok := range []bool{impl.FamilyOk(f), impl.InOk(f, 0), impl.InOk(f, 1), impl.InOk(f, 5)} {
			row = append(row, map[bool]int{true: 1}[ok])
		}
		blocker, _ := impl.BlockerOf(f)
		from, _ := impl.FamilyFrom(f.Things, f.Least)
		return slices.Concat(row, blocker.Least, from.Least)
	}
	var first [][]int
	for _, f := range list {
		first = append(first, tell(f))
	}
	for at, f := range slices.Backward(list) {
		mustBeRow(t, "told otherwise", f, tell(f), first[at])
	}
}
