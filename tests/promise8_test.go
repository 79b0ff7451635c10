package tests

import (
	"slices"
	"testing"

	"loop.example/g01221/impl"
)

// stacksForInsertions returns all stacks of six pancakes and fewer, and some of each greater number.
func stacksForInsertions() [][]int {
	return append(stacksForBlocks(), []int{3, 2, 1, 6, 5, 4, 9, 8, 7}, []int{4, 1, 7, 3, 9, 2, 8, 6, 5})
}

func stacksForInsertionsAndOthers() [][]int {
	return append(stacksForInsertions(), noStacks()...)
}

// someMoves returns all insertions for n, and others that are none, as their places are out of range.
func someMoves(n int) []impl.Insertion {
	lists := append(placesFor(n, 2), withBadPlaces(n, []int{1, n}, []int{n, 1}, []int{2, 2})...)
	return movesOf(slices.Concat(lists...)...)
}

// someRows returns all tables of up to five numbers, and some of nine.
func someRows() [][][]int {
	all := [][][]int{{modelSorted(9)}, modelCut(modelSorted(9), repeated(1, 9)), {{1, 2, 5}, {3, 4, 8}, {6, 7, 9}}, {{1, 3, 5, 9}, {2, 6, 7}, {4}, {8}}}
	for n := 1; n <= 5; n++ {
		for _, shape := range modelShapes(n) {
			all = append(all, modelTables(shape, n)...)
		}
	}
	return all
}

// noRows returns lists of which none is a table of a shape.
func noRows() [][][]int {
	return [][][]int{
		nil, {}, {nil}, {{}, {}}, {{1}, {}}, {{}, {1}}, {{1, 2}, {}, {3}}, {{1, 2, 3}, nil},
		{{0}}, {{2}}, {{-1}}, {{1, 1}}, {{1}, {1}}, {{2, 1}}, {{2}, {1}}, {{1, 3}}, {{1, 2}, {4}}, {{0, 1}, {2}}, {{1, 2}, {1}}, {{1, 2}, {2}},
		{{1}, {2, 3}}, {{1, 2}, {3, 4, 5}}, {{1, 2}, {3}, {4, 5}}, {{1, 2, 3}, {4}, {5, 6, 7, 8, 9}},
		{{1, 3}, {4, 2}}, {{1, 4}, {2, 3}}, {{2, 3}, {1}}, {{1, 3, 2}}, {{1, 2, 3}, {5, 4}}, {{1, 2, 6}, {3, 4, 5}}, {{1, 2}, {3}, {5}, {4}},
		{modelSorted(10)}, modelCut(modelSorted(10), repeated(1, 10)), modelCut(modelSorted(10), []int{5, 5}), modelCut(modelSorted(10), []int{9, 1}), {modelSorted(9), {1}}, {modelSorted(9), modelSorted(9)},
		{{1 << 32, 1}}, {{1<<32 + 1}}, {{257}}, {{minInt}}, {{maxInt}}, {{minInt, maxInt}}, {{1, maxInt}, {minInt}}, {modelSorted(1000)}, make([][]int, 1000),
	}
}

// badShapes are lists that are not the lengths of the rows of any table.
func badShapes() [][]int {
	return [][]int{
		nil, {}, {0}, {-1}, {1, 0}, {0, 1}, {2, 1, 0}, {2, 0, 1}, {2, -1}, {-1, 2}, {3, -1, 1}, {1, 2}, {2, 1, 2}, {1, 1, 2}, {3, 2, 3}, {1, 8}, {4, 5},
		{10}, {9, 1}, {5, 5}, {8, 1, 1}, {4, 3, 2, 1}, repeated(1, 10), repeated(3, 4), repeated(1, 1000), repeated(9, 9), {9, 0}, {10, -1}, {11, -2},
		{minInt}, {maxInt}, {maxInt, maxInt, 4}, {maxInt, maxInt, 1, 1, 1}, {1, minInt}, {maxInt, minInt}, {1 << 62, 1 << 62, 1 << 62, 1 << 62, 1}, {1<<32 + 1}, {257, 1}, repeated(0, 100000),
	}
}

func TestExampleOfInsertions(t *testing.T) {
	s := []int{3, 1, 2}
	rising, ok := impl.LongestRising(s)
	expectList(t, "LongestRising", args(s), rising, ok, []int{1, 2}, true)
	moves, ok := impl.MovesToSort(s)
	expectList(t, "MovesToSort", args(s), moves, ok, movesOf(1, 3), true)
	moved, ok := impl.PlayMoves(s, moves)
	expectList(t, "PlayMoves", args(s, moves), moved, ok, []int{1, 2, 3}, true)
	piles, ok := impl.PilesOf(s)
	expectLists(t, "PilesOf", args(s), piles, ok, [][]int{{3, 1}, {2}}, true)
	rows, ok := impl.RowsOf(s)
	expectLists(t, "RowsOf", args(s), rows, ok, [][]int{{1, 2}, {3}}, true)
	places, ok := impl.PlacesOfRows(s)
	expectLists(t, "PlacesOfRows", args(s), places, ok, [][]int{{1, 3}, {2}}, true)
	tables, ok := impl.CountTables([]int{2, 1})
	expect(t, "CountTables", args(2, 1), tables, ok, 2, true)
	counts, ok := impl.CountByRising(3)
	expectList(t, "CountByRising", args(3), counts, ok, []int{1, 4, 1}, true)
}

func TestMovedPancakes(t *testing.T) {
	for _, s := range append(someStacks(), noStacks()...) {
		for _, m := range someMoves(min(len(s), 10)) {
			var want []int
			valid := modelIsStack(s) && modelIsMove(len(s), m)
			if valid {
				want = modelMoveOne(s, m)
			}
			moved, ok := impl.MoveOne(s, m)
			expectList(t, "MoveOne", args(s, m), moved, ok, want, valid)
			if !valid {
				continue
			}
			back := impl.Insertion{From: m.To, To: m.From}
			again, ok := impl.MoveOne(moved, back)
			expectList(t, "MoveOne", args(moved, back), again, ok, s, true)
		}
	}
}

func TestNamedMovedPancakes(t *testing.T) {
	for _, c := range []struct {
		s, want []int
		m       impl.Insertion
	}{
		{[]int{1}, []int{1}, impl.Insertion{From: 1, To: 1}},
		{[]int{2, 1}, []int{1, 2}, impl.Insertion{From: 1, To: 2}},
		{[]int{2, 1}, []int{1, 2}, impl.Insertion{From: 2, To: 1}},
		{[]int{3, 1, 2}, []int{1, 2, 3}, impl.Insertion{From: 1, To: 3}},
		{[]int{3, 1, 2}, []int{1, 3, 2}, impl.Insertion{From: 1, To: 2}},
		{[]int{3, 1, 2}, []int{2, 3, 1}, impl.Insertion{From: 3, To: 1}},
		{[]int{3, 1, 2}, []int{3, 1, 2}, impl.Insertion{From: 2, To: 2}},
		{modelSorted(9), []int{2, 3, 4, 5, 6, 7, 8, 9, 1}, impl.Insertion{From: 1, To: 9}},
		{modelSorted(9), []int{9, 1, 2, 3, 4, 5, 6, 7, 8}, impl.Insertion{From: 9, To: 1}},
		{modelSorted(9), []int{1, 2, 4, 5, 6, 7, 3, 8, 9}, impl.Insertion{From: 3, To: 7}},
		{modelSorted(9), []int{1, 2, 7, 3, 4, 5, 6, 8, 9}, impl.Insertion{From: 7, To: 3}},
		{modelSorted(9), modelSorted(9), impl.Insertion{From: 9, To: 9}},
	} {
		moved, ok := impl.MoveOne(c.s, c.m)
		expectList(t, "MoveOne", args(c.s, c.m), moved, ok, c.want, true)
	}
}

// TestPancakesStayWhereTheyAre has the insertions that change nothing.
func TestPancakesStayWhereTheyAre(t *testing.T) {
	for _, s := range stacksForInsertions() {
		for place := 1; place <= len(s); place++ {
			m := impl.Insertion{From: place, To: place}
			moved, ok := impl.MoveOne(s, m)
			expectList(t, "MoveOne", args(s, m), moved, ok, s, true)
			stays := slices.Repeat([]impl.Insertion{m}, modelMaxPlan)
			moved, ok = impl.PlayMoves(s, stays)
			expectList(t, "PlayMoves", args(s, stays), moved, ok, s, true)
			tooMany := append(stays, m)
			moved, ok = impl.PlayMoves(s, tooMany)
			expectList(t, "PlayMoves", args(s, tooMany), moved, ok, nil, false)
		}
	}
}

// someMoveLists returns lists of insertions for n and lists that have others than insertions in them.
func someMoveLists(n int) [][]impl.Insertion {
	bads := movesOf(0, 1, 1, 0, 0, 0, n+1, 1, 1, n+1, n+1, n+1, -1, n, n, -1, minInt, 1, 1, maxInt, maxInt, minInt, 10, 9, 9, 10, 1<<32+1, 1)
	return someListsOf(modelInsertions(min(n, 2)), modelInsertions(n), impl.Insertion{From: n, To: 1}, bads)
}

func TestPlayedInsertions(t *testing.T) {
	for _, s := range append(someStacks(), noStacks()...) {
		for _, moves := range someMoveLists(min(len(s), 10)) {
			var want []int
			valid := modelArePlayedMoves(s, moves)
			if valid {
				want = modelMoved(modelMoveOne, s, moves)
			}
			played, ok := impl.PlayMoves(s, moves)
			expectList(t, "PlayMoves", args(s, moves), played, ok, want, valid)
		}
	}
}

func TestPlayedInsertionsAreMadeOneByOne(t *testing.T) {
	for _, s := range stacksForInsertions() {
		one := s
		moves := againAndAgain(modelInsertions(len(s)), modelMaxPlan)
		for i, m := range moves {
			one, _ = impl.MoveOne(one, m)
			played, ok := impl.PlayMoves(s, moves[:i+1])
			expectList(t, "PlayMoves", args(s, moves[:i+1]), played, ok, one, true)
		}
		played, ok := impl.PlayMoves(s, nil)
		expectList(t, "PlayMoves", args(s, nil), played, ok, s, true)
	}
}

func TestRisingParts(t *testing.T) {
	for _, s := range append(stacksForInsertionsAndOthers(), allStacks(7)...) {
		rising, falling := [][]int{nil}, [][]int{nil}
		valid := modelIsStack(s)
		if valid {
			rising, falling = modelLongestParts(s, rises), modelLongestParts(s, falls)
		}
		part, ok := impl.LongestRising(s)
		expectList(t, "LongestRising", args(s), part, ok, rising[0], valid)
		length, ok := impl.RisingLength(s)
		expect(t, "RisingLength", args(s), length, ok, len(rising[0]), valid)
		length, ok = impl.FallingLength(s)
		expect(t, "FallingLength", args(s), length, ok, len(falling[0]), valid)
		count, ok := impl.CountRising(s)
		expect(t, "CountRising", args(s), count, ok, len(rising), valid)
		least, ok := impl.LeastMoves(s)
		expect(t, "LeastMoves", args(s), least, ok, len(s)-len(rising[0]), valid)
	}
}

// TestNamedRisingParts has stacks of which a longest rising part is one size.
func TestNamedRisingParts(t *testing.T) {
	for _, c := range []struct {
		s, rising      []int
		falling, count int
	}{
		{[]int{1}, []int{1}, 1, 1},
		{[]int{1, 2}, []int{1, 2}, 1, 1},
		{[]int{2, 1}, []int{1}, 2, 2},
		{[]int{3, 1, 2}, []int{1, 2}, 2, 1},
		{[]int{2, 3, 1}, []int{2, 3}, 2, 1},
		{[]int{3, 2, 1}, []int{1}, 3, 3},
		{[]int{2, 4, 1, 3}, []int{1, 3}, 2, 3},
		{[]int{3, 4, 1, 2}, []int{1, 2}, 2, 2},
		{[]int{2, 1, 4, 3}, []int{1, 3}, 2, 4},
		{[]int{2, 5, 1, 8, 4, 7, 9, 6, 3}, []int{1, 4, 7, 9}, 4, 4},
		{[]int{7, 8, 9, 4, 5, 6, 1, 2, 3}, []int{1, 2, 3}, 3, 3},
		{[]int{3, 2, 1, 6, 5, 4, 9, 8, 7}, []int{1, 4, 7}, 3, 27},
		{[]int{9, 8, 7, 6, 5, 4, 3, 2, 1}, []int{1}, 9, 9},
		{modelSorted(9), modelSorted(9), 1, 1},
	} {
		part, ok := impl.LongestRising(c.s)
		expectList(t, "LongestRising", args(c.s), part, ok, c.rising, true)
		length, ok := impl.FallingLength(c.s)
		expect(t, "FallingLength", args(c.s), length, ok, c.falling, true)
		count, ok := impl.CountRising(c.s)
		expect(t, "CountRising", args(c.s), count, ok, c.count, true)
	}
}

// TestNoFewerInsertionsSort holds the least numbers, which are read off rising
// parts, against those that a search finds.
func TestNoFewerInsertionsSort(t *testing.T) {
	for n := 1; n <= 7; n++ {
		distances := modelMoveDistances(modelMoveOne, n, modelInsertions(n))
		for _, s := range allStacks(n) {
			least, ok := impl.LeastMoves(s)
			expect(t, "LeastMoves", args(s), least, ok, distances[keyOf(s)], true)
		}
	}
}

func TestInsertionsChangeRisingPartsByOneAtMost(t *testing.T) {
	most := 0
	for _, s := range stacksForInsertions() {
		before, _ := impl.RisingLength(s)
		for _, m := range modelInsertions(len(s)) {
			moved, _ := impl.MoveOne(s, m)
			behind, ok := impl.RisingLength(moved)
			if grown := behind - before; !ok || grown > 1 || grown < -1 {
				t.Error("the insertion", m, "of", s, "makes the longest rising part longer by", grown)
			}
			most = max(most, behind-before)
		}
	}
	if most != 1 {
		t.Error("insertions make longest rising parts longer by", most, "at most")
	}
}

func TestMovesToSort(t *testing.T) {
	for _, s := range append(stacksForInsertionsAndOthers(), allStacks(7)...) {
		var want []impl.Insertion
		valid := modelIsStack(s)
		if valid {
			want = modelMovesToSort(s)
		}
		moves, ok := impl.MovesToSort(s)
		expectList(t, "MovesToSort", args(s), moves, ok, want, valid)
		if !valid {
			continue
		}
		least, ok := impl.LeastMoves(s)
		expect(t, "LeastMoves", args(s), least, ok, len(moves), true)
		sorted, ok := impl.PlayMoves(s, moves)
		expectList(t, "PlayMoves", args(s, moves), sorted, ok, modelSorted(len(s)), true)
	}
}

func TestNamedMovesToSort(t *testing.T) {
	for _, c := range []struct {
		s    []int
		want []impl.Insertion
	}{
		{[]int{1}, nil},
		{modelSorted(9), nil},
		{[]int{2, 1}, movesOf(1, 2)},
		{[]int{3, 1, 2}, movesOf(1, 3)},
		{[]int{2, 3, 1}, movesOf(3, 1)},
		{[]int{3, 2, 1}, movesOf(2, 3, 1, 3)},
		{[]int{2, 4, 1, 3}, movesOf(1, 3, 1, 4)},
		{[]int{3, 4, 1, 2}, movesOf(1, 4, 1, 4)},
		{[]int{5, 4, 3, 2, 1}, movesOf(4, 5, 3, 5, 2, 5, 1, 5)},
		{[]int{1, 5, 2, 3, 4, 6}, movesOf(2, 5)},
		{[]int{1, 2, 4, 5, 3, 6}, movesOf(5, 3)},
		{[]int{9, 1, 2, 3, 4, 5, 6, 7, 8}, movesOf(1, 9)},
		{[]int{2, 3, 4, 5, 6, 7, 8, 9, 1}, movesOf(9, 1)},
	} {
		moves, ok := impl.MovesToSort(c.s)
		expectList(t, "MovesToSort", args(c.s), moves, ok, c.want, true)
		least, ok := impl.LeastMoves(c.s)
		expect(t, "LeastMoves", args(c.s), least, ok, len(c.want), true)
	}
}

func TestPilesOfPatience(t *testing.T) {
	for _, s := range append(stacksForInsertionsAndOthers(), allStacks(7)...) {
		var want [][]int
		valid := modelIsStack(s)
		if valid {
			want = modelPiles(s)
		}
		piles, ok := impl.PilesOf(s)
		expectLists(t, "PilesOf", args(s), piles, ok, want, valid)
		length, ok := impl.RisingLength(s)
		expect(t, "RisingLength", args(s), length, ok, len(piles), valid)
	}
}

func TestNamedPiles(t *testing.T) {
	for _, c := range []struct {
		s    []int
		want [][]int
	}{
		{[]int{1}, [][]int{{1}}},
		{[]int{1, 2}, [][]int{{1}, {2}}},
		{[]int{2, 1}, [][]int{{2, 1}}},
		{[]int{3, 1, 2}, [][]int{{3, 1}, {2}}},
		{[]int{2, 4, 1, 3}, [][]int{{2, 1}, {4, 3}}},
		{[]int{2, 5, 1, 8, 4, 7, 9, 6, 3}, [][]int{{2, 1}, {5, 4, 3}, {8, 7, 6}, {9}}},
		{[]int{9, 8, 7, 6, 5, 4, 3, 2, 1}, [][]int{{9, 8, 7, 6, 5, 4, 3, 2, 1}}},
		{modelSorted(9), modelCut(modelSorted(9), repeated(1, 9))},
	} {
		piles, ok := impl.PilesOf(c.s)
		expectLists(t, "PilesOf", args(c.s), piles, ok, c.want, true)
	}
}

func TestRows(t *testing.T) {
	for _, s := range append(stacksForInsertionsAndOthers(), allStacks(7)...) {
		var wantRows, wantPlaces [][]int
		valid := modelIsStack(s)
		if valid {
			wantRows, wantPlaces = modelRows(s), modelPlaces(s)
		}
		rows, ok := impl.RowsOf(s)
		expectLists(t, "RowsOf", args(s), rows, ok, wantRows, valid)
		places, ok := impl.PlacesOfRows(s)
		expectLists(t, "PlacesOfRows", args(s), places, ok, wantPlaces, valid)
		shape, ok := impl.ShapeOf(s)
		expectList(t, "ShapeOf", args(s), shape, ok, modelLengths(wantRows), valid)
		if valid && (!impl.AreRows(rows) || !impl.AreRows(places)) {
			t.Error("the rows of", s, "are", rows, "with the places", places)
		}
	}
}

func TestNamedRows(t *testing.T) {
	for _, c := range []struct {
		s            []int
		rows, places [][]int
	}{
		{[]int{1}, [][]int{{1}}, [][]int{{1}}},
		{[]int{2, 1}, [][]int{{1}, {2}}, [][]int{{1}, {2}}},
		{[]int{3, 1, 2}, [][]int{{1, 2}, {3}}, [][]int{{1, 3}, {2}}},
		{[]int{2, 3, 1}, [][]int{{1, 3}, {2}}, [][]int{{1, 2}, {3}}},
		{[]int{2, 4, 1, 3}, [][]int{{1, 3}, {2, 4}}, [][]int{{1, 2}, {3, 4}}},
		{[]int{4, 1, 3, 2}, [][]int{{1, 2}, {3}, {4}}, [][]int{{1, 3}, {2}, {4}}},
		{[]int{5, 6, 3, 4, 1, 2}, [][]int{{1, 2}, {3, 4}, {5, 6}}, [][]int{{1, 2}, {3, 4}, {5, 6}}},
		{modelSorted(9), [][]int{modelSorted(9)}, [][]int{modelSorted(9)}},
		{[]int{9, 8, 7, 6, 5, 4, 3, 2, 1}, modelCut(modelSorted(9), repeated(1, 9)), modelCut(modelSorted(9), repeated(1, 9))},
	} {
		rows, ok := impl.RowsOf(c.s)
		expectLists(t, "RowsOf", args(c.s), rows, ok, c.rows, true)
		places, ok := impl.PlacesOfRows(c.s)
		expectLists(t, "PlacesOfRows", args(c.s), places, ok, c.places, true)
		shape, ok := impl.ShapeOf(c.s)
		expectList(t, "ShapeOf", args(c.s), shape, ok, modelLengths(c.rows), true)
	}
}

func TestRowsTellStacks(t *testing.T) {
	for _, s := range append(stacksForInsertions(), allStacks(7)...) {
		rows, _ := impl.RowsOf(s)
		places, _ := impl.PlacesOfRows(s)
		again, ok := impl.StackOfRows(rows, places)
		expectList(t, "StackOfRows", args(rows, places), again, ok, s, true)
		inverse, _ := impl.InverseStack(s)
		other, ok := impl.StackOfRows(places, rows)
		expectList(t, "StackOfRows", args(places, rows), other, ok, inverse, true)
	}
}

func TestRowsTellLengths(t *testing.T) {
	for _, s := range stacksForInsertions() {
		rows, _ := impl.RowsOf(s)
		rising, ok := impl.RisingLength(s)
		expect(t, "RisingLength", args(s), rising, ok, len(rows[0]), true)
		falling, ok := impl.FallingLength(s)
		expect(t, "FallingLength", args(s), falling, ok, len(rows), true)
		back, _ := impl.BackStack(s)
		columns, ok := impl.RowsOf(back)
		expectLists(t, "RowsOf", args(back), columns, ok, modelColumns(rows), true)
	}
}

// TestTwoTablesOfOneShapeAreRows has all pairs of them: as many as there are stacks.
func TestTwoTablesOfOneShapeAreRows(t *testing.T) {
	stacks := 1
	for n := 1; n <= 6; n++ {
		stacks *= n
		seen := map[modelKey]bool{}
		for _, shape := range modelShapes(n) {
			tables := modelTables(shape, n)
			for _, rows := range tables {
				for _, places := range tables {
					seen[keyOf(checkStackOfRows(t, rows, places))] = true
				}
			}
		}
		if len(seen) != stacks {
			t.Error("tables of", n, "numbers are rows of", len(seen), "stacks")
		}
	}
}

func checkStackOfRows(t *testing.T, rows [][]int, places [][]int) []int {
	t.Helper()
	s, ok := impl.StackOfRows(rows, places)
	if !ok || !impl.IsStack(s) {
		t.Error("StackOfRows of", rows, places, "is", s, ok)
	}
	gotRows, ok := impl.RowsOf(s)
	expectLists(t, "RowsOf", args(s), gotRows, ok, rows, true)
	gotPlaces, ok := impl.PlacesOfRows(s)
	expectLists(t, "PlacesOfRows", args(s), gotPlaces, ok, places, true)
	return s
}

func TestTablesOfTwoShapesAreNoRows(t *testing.T) {
	all := someRows()
	for _, rows := range all {
		for _, places := range all {
			if slices.Equal(modelLengths(rows), modelLengths(places)) {
				continue
			}
			s, ok := impl.StackOfRows(rows, places)
			expectList(t, "StackOfRows", args(rows, places), s, ok, nil, false)
		}
	}
}

func TestNoTablesAreNoRows(t *testing.T) {
	all := noRows()
	for _, rows := range all {
		for _, other := range slices.Concat(all, someRows()) {
			s, ok := impl.StackOfRows(rows, other)
			expectList(t, "StackOfRows", args(rows, other), s, ok, nil, false)
			s, ok = impl.StackOfRows(other, rows)
			expectList(t, "StackOfRows", args(other, rows), s, ok, nil, false)
		}
	}
}

func TestNamedStacksOfRows(t *testing.T) {
	for _, c := range []struct {
		rows, places [][]int
		want         []int
	}{
		{[][]int{{1}}, [][]int{{1}}, []int{1}},
		{[][]int{{1, 2}, {3}}, [][]int{{1, 3}, {2}}, []int{3, 1, 2}},
		{[][]int{{1, 2}, {3}}, [][]int{{1, 2}, {3}}, []int{1, 3, 2}},
		{[][]int{{1, 3}, {2}}, [][]int{{1, 3}, {2}}, []int{2, 1, 3}},
		{[][]int{{1, 3}, {2, 4}}, [][]int{{1, 2}, {3, 4}}, []int{2, 4, 1, 3}},
		{[][]int{modelSorted(9)}, [][]int{modelSorted(9)}, modelSorted(9)},
		{modelCut(modelSorted(9), repeated(1, 9)), modelCut(modelSorted(9), repeated(1, 9)), []int{9, 8, 7, 6, 5, 4, 3, 2, 1}},
		{modelCut(modelSorted(9), []int{3, 3, 3}), modelCut(modelSorted(9), []int{3, 3, 3}), []int{7, 8, 9, 4, 5, 6, 1, 2, 3}},
	} {
		s, ok := impl.StackOfRows(c.rows, c.places)
		expectList(t, "StackOfRows", args(c.rows, c.places), s, ok, c.want, true)
	}
}

func TestTablesAreTold(t *testing.T) {
	for _, rows := range someRows() {
		if !impl.AreRows(rows) {
			t.Error("no table", rows)
		}
	}
	for _, rows := range noRows() {
		if impl.AreRows(rows) {
			t.Error("a table", rows)
		}
	}
}

// TestAllRowsOfFewNumbers cuts lists into rows of all lengths, of 0, too.
func TestAllRowsOfFewNumbers(t *testing.T) {
	lists := [][]int{{1, 1}, {2, 3}, {0, 1}, {1, 2, 4}, {1, 2, 2}, {-1, 1, 2}, {1, 2, 3, 3}, {2, 3, 4, 5}}
	for n := 1; n <= 5; n++ {
		lists = append(lists, allStacks(n)...)
	}
	for _, s := range lists {
		for _, plan := range allPlans(len(s)+1, len(s)) {
			var lengths []int
			boxes := 0
			for _, k := range plan {
				lengths = append(lengths, k-1)
				boxes += k - 1
			}
			if boxes != len(s) {
				continue
			}
			rows := modelCut(s, lengths)
			if got := impl.AreRows(rows); got != modelAreRows(rows) {
				t.Errorf("AreRows of %v is %v", rows, got)
			}
		}
	}
}

func TestTablesAreCounted(t *testing.T) {
	for n := 1; n <= 7; n++ {
		for _, shape := range modelShapes(n) {
			count, ok := impl.CountTables(shape)
			expect(t, "CountTables", args(shape), count, ok, len(modelTables(shape, n)), true)
		}
	}
}

// TestStacksOfOneShapeAreCounted has all shapes: as many stacks have one as there are pairs of its tables.
func TestStacksOfOneShapeAreCounted(t *testing.T) {
	stacks := 1
	for n := 1; n <= modelMaxStack; n++ {
		stacks *= n
		pairs := 0
		for _, shape := range modelShapes(n) {
			count, ok := impl.CountTables(shape)
			expect(t, "CountTables", args(shape), count, ok, modelCountTables(shape), true)
			pairs += count * count
		}
		if pairs != stacks {
			t.Error("there are", pairs, "pairs of tables of", n, "numbers, not", stacks)
		}
	}
}

func TestNamedCountsOfTables(t *testing.T) {
	for _, c := range []struct {
		shape []int
		want  int
	}{
		{[]int{1}, 1}, {[]int{2}, 1}, {[]int{1, 1}, 1}, {[]int{2, 1}, 2}, {[]int{2, 2}, 2}, {[]int{3, 2}, 5}, {[]int{3, 2, 1}, 16}, {[]int{2, 2, 2}, 5},
		{[]int{9}, 1}, {repeated(1, 9), 1}, {[]int{8, 1}, 8}, {[]int{5, 1, 1, 1, 1}, 70}, {[]int{3, 3, 3}, 42}, {[]int{5, 4}, 42}, {[]int{4, 3, 2}, 168}, {[]int{4, 3, 1, 1}, 216},
	} {
		count, ok := impl.CountTables(c.shape)
		expect(t, "CountTables", args(c.shape), count, ok, c.want, true)
	}
}

func TestShapesThatAreNone(t *testing.T) {
	for _, shape := range badShapes() {
		count, ok := impl.CountTables(shape)
		expect(t, "CountTables", args(shape), count, ok, 0, false)
	}
}

// TestShapesOfFewRows looks at all lists of four numbers and fewer, most of which are no shapes.
func TestShapesOfFewRows(t *testing.T) {
	numbers := []int{-1, 0, 1, 2, 3, 4, 5, 8, 9, 10, minInt, maxInt}
	for _, shape := range allListsOf(numbers, 4) {
		want := 0
		valid := modelIsShape(shape)
		if valid {
			want = modelCountTables(shape)
		}
		count, ok := impl.CountTables(shape)
		expect(t, "CountTables", args(shape), count, ok, want, valid)
	}
}

// countsByRising are, as they are known, how many stacks have the RisingLength 1, .., n.
var countsByRising = [][]int{{1}, {1, 1}, {1, 4, 1}, {1, 13, 9, 1}, {1, 41, 61, 16, 1}, {1, 131, 381, 181, 25, 1}, {1, 428, 2332, 1821, 421, 36, 1}}

func TestCountsByRising(t *testing.T) {
	for _, n := range someNumbers() {
		var want []int
		valid := isIn(n, modelMaxByRising)
		if valid {
			want = countsByRising[n-1]
		}
		counts, ok := impl.CountByRising(n)
		expectList(t, "CountByRising", args(n), counts, ok, want, valid)
	}
}

func TestRisingLengthsAreCounted(t *testing.T) {
	for n := 1; n <= modelMaxByRising; n++ {
		byParts, byTables := make([]int, n), make([]int, n)
		for _, s := range allStacks(n) {
			length, _ := impl.RisingLength(s)
			byParts[length-1]++
		}
		for _, shape := range modelShapes(n) {
			tables := modelCountTables(shape)
			byTables[shape[0]-1] += tables * tables
		}
		counts, ok := impl.CountByRising(n)
		expectList(t, "CountByRising", args(n), counts, ok, byParts, true)
		expectList(t, "CountByRising", args(n), counts, ok, byTables, true)
	}
}

// TestOnePancakeIsOneRow has what each function makes of the stack of one pancake.
func TestOnePancakeIsOneRow(t *testing.T) {
	s := []int{1}
	for _, m := range someMoves(1) {
		moved, ok := impl.MoveOne(s, m)
		expectList(t, "MoveOne", args(s, m), moved, ok, s, m == impl.Insertion{From: 1, To: 1})
	}
	one := [][]int{{1}}
	piles, ok := impl.PilesOf(s)
	expectLists(t, "PilesOf", args(s), piles, ok, one, true)
	rows, ok := impl.RowsOf(s)
	expectLists(t, "RowsOf", args(s), rows, ok, one, true)
	again, ok := impl.StackOfRows(one, one)
	expectList(t, "StackOfRows", args(one, one), again, ok, s, true)
	moves, ok := impl.MovesToSort(s)
	expectList(t, "MovesToSort", args(s), moves, ok, nil, true)
}

// TestSortedAndFallingStacks has one row, and one column.
func TestSortedAndFallingStacks(t *testing.T) {
	for n := 1; n <= modelMaxStack; n++ {
		row, column := [][]int{modelSorted(n)}, modelCut(modelSorted(n), repeated(1, n))
		checkSortedOrFalling(t, modelSorted(n), row, column, n)
		checkSortedOrFalling(t, modelTurn(modelSorted(n), n), column, [][]int{modelTurn(modelSorted(n), n)}, 1)
	}
}

func checkSortedOrFalling(t *testing.T, s []int, wantRows [][]int, wantPiles [][]int, rising int) {
	t.Helper()
	length, ok := impl.RisingLength(s)
	expect(t, "RisingLength", args(s), length, ok, rising, true)
	length, ok = impl.FallingLength(s)
	expect(t, "FallingLength", args(s), length, ok, len(s)+1-rising, true)
	count, ok := impl.CountRising(s)
	expect(t, "CountRising", args(s), count, ok, len(s)+1-rising, true)
	least, ok := impl.LeastMoves(s)
	expect(t, "LeastMoves", args(s), least, ok, len(s)-rising, true)
	piles, ok := impl.PilesOf(s)
	expectLists(t, "PilesOf", args(s), piles, ok, wantPiles, true)
	rows, ok := impl.RowsOf(s)
	expectLists(t, "RowsOf", args(s), rows, ok, wantRows, true)
	places, ok := impl.PlacesOfRows(s)
	expectLists(t, "PlacesOfRows", args(s), places, ok, wantRows, true)
	tables, ok := impl.CountTables(modelLengths(wantRows))
	expect(t, "CountTables", args(modelLengths(wantRows)), tables, ok, 1, true)
}
