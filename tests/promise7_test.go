package tests

import (
	"slices"
	"testing"

	"loop.example/g01221/impl"
)

// stacksForBlocks returns all stacks of six pancakes and fewer, and some of each greater number.
func stacksForBlocks() [][]int {
	return append(stacksForSegments(), []int{4, 7, 1, 5, 2, 6, 3}, []int{8, 6, 4, 2, 7, 5, 3, 1}, []int{2, 3, 4, 5, 6, 7, 8, 9, 1}, []int{7, 8, 9, 4, 5, 6, 1, 2, 3})
}

func stacksForBlocksAndOthers() [][]int {
	return append(stacksForBlocks(), noStacks()...)
}

// notFewBlocks returns lists that are no stacks, and stacks of more than MaxBlocks pancakes.
func notFewBlocks() [][]int {
	return append(notFar(), []int{4, 7, 1, 5, 2, 6, 3}, []int{8, 6, 4, 2, 7, 5, 3, 1}, []int{7, 8, 9, 4, 5, 6, 1, 2, 3})
}

// badPlaces are out of the places of n pancakes.
func badPlaces(n int) []int {
	return []int{0, -1, -2, n + 1, n + 2, modelMaxStack + 1, 257, 1<<32 + 1, minInt, minInt + 1, maxInt - 1, maxInt}
}

// withBadPlaces returns lists of places for n, each with one that is out of range, and all of them with the same one.
func withBadPlaces(n int, lists ...[]int) [][]int {
	var all [][]int
	for _, bad := range badPlaces(n) {
		for _, places := range lists {
			for i := range places {
				other := slices.Clone(places)
				other[i] = bad
				all = append(all, other)
			}
			all = append(all, repeated(bad, len(places)))
		}
	}
	return all
}

// someBlocks returns all block moves for n, and others that are none: their
// places are not in order, or out of range.
func someBlocks(n int) []impl.Block {
	lists := append(placesFor(n, 3), withBadPlaces(n, []int{1, 1, n}, []int{1, n - 1, n}, []int{1, 2, 3}, []int{2, 2, n})...)
	return blocksOf(slices.Concat(lists...)...)
}

// someExchanges returns the same for exchanges.
func someExchanges(n int) []impl.Exchange {
	lists := append(placesFor(n, 4), withBadPlaces(n, []int{1, 1, n, n}, []int{1, 1, 2, 2}, []int{1, n - 1, n, n}, []int{1, 2, 3, 4}, []int{2, 2, n - 1, n})...)
	return exchangesOf(slices.Concat(lists...)...)
}

// touchingExchange is the exchange that does what a block move does.
func touchingExchange(b impl.Block) impl.Exchange {
	return impl.Exchange{First: b.From, Second: b.Middle, Third: b.Middle + 1, Last: b.To}
}

func TestLimitOfBlocks(t *testing.T) {
	if impl.MaxBlocks != modelMaxBlocks {
		t.Error("limit", impl.MaxBlocks)
	}
}

func TestExampleOfBlocks(t *testing.T) {
	s := []int{3, 1, 2}
	breaks, ok := impl.BlockBreaks(s)
	expectList(t, "BlockBreaks", args(s), breaks, ok, []int{0, 1, 3}, true)
	least, ok := impl.LeastBlocks(s)
	expectList(t, "LeastBlocks", args(s), least, ok, blocksOf(1, 1, 3), true)
	moved, ok := impl.MoveBlock(s, impl.Block{From: 1, Middle: 1, To: 3})
	expectList(t, "MoveBlock", args(s), moved, ok, []int{1, 2, 3}, true)
	cycles, ok := impl.CyclesOfStack(s)
	expectLists(t, "CyclesOfStack", args(s), cycles, ok, [][]int{{0, 3, 2}, {1}}, true)
	distance, ok := impl.ExchangeDistance(s)
	expect(t, "ExchangeDistance", args(s), distance, ok, 1, true)

	s = []int{3, 2, 1}
	distance, ok = impl.BlockDistance(s)
	expect(t, "BlockDistance", args(s), distance, ok, 2, true)
	distance, ok = impl.ExchangeDistance(s)
	expect(t, "ExchangeDistance", args(s), distance, ok, 1, true)
	exchanges, ok := impl.LeastExchanges(s)
	expectList(t, "LeastExchanges", args(s), exchanges, ok, exchangesOf(1, 1, 3, 3), true)
}

func TestBlocksAreTold(t *testing.T) {
	numbers := someNumbers()
	for _, n := range numbers {
		for _, p := range placesFor(len(numbers), 3) {
			block := blocksOf(numbers[p[0]-1], numbers[p[1]-1], numbers[p[2]-1])[0]
			if got := impl.IsBlock(n, block); got != modelIsBlock(n, block) {
				t.Errorf("IsBlock of %d and %v is %v", n, block, got)
			}
		}
	}
}

func TestExchangesAreTold(t *testing.T) {
	numbers := []int{minInt, -1, 0, 1, 2, 3, 5, 8, 9, 10, 257, 1<<32 + 1, maxInt}
	for _, n := range someNumbers() {
		for _, p := range placesFor(len(numbers), 4) {
			exchange := exchangesOf(numbers[p[0]-1], numbers[p[1]-1], numbers[p[2]-1], numbers[p[3]-1])[0]
			if got := impl.IsExchange(n, exchange); got != modelIsExchange(n, exchange) {
				t.Errorf("IsExchange of %d and %v is %v", n, exchange, got)
			}
		}
	}
}

// TestHowManyBlocksAndExchanges counts those with places from -1 to 12.
func TestHowManyBlocksAndExchanges(t *testing.T) {
	wantBlocks := []int{0, 0, 1, 4, 10, 20, 35, 56, 84, 120, 0, 0}
	wantExchanges := []int{0, 0, 1, 5, 15, 35, 70, 126, 210, 330, 0, 0}
	for n := range wantBlocks {
		blocks, exchanges := 0, 0
		for _, p := range placesFor(14, 3) {
			if impl.IsBlock(n, blocksOf(p[0]-2, p[1]-2, p[2]-2)[0]) {
				blocks++
			}
		}
		for _, p := range placesFor(14, 4) {
			if impl.IsExchange(n, exchangesOf(p[0]-2, p[1]-2, p[2]-2, p[3]-2)[0]) {
				exchanges++
			}
		}
		if blocks != wantBlocks[n] || exchanges != wantExchanges[n] {
			t.Errorf("there are %d block moves and %d exchanges for %d, not %d and %d", blocks, exchanges, n, wantBlocks[n], wantExchanges[n])
		}
	}
}

func TestMovedBlocks(t *testing.T) {
	for _, s := range stacksForBlocksAndOthers() {
		for _, block := range someBlocks(min(len(s), 10)) {
			var want []int
			valid := modelIsStack(s) && modelIsBlock(len(s), block)
			if valid {
				want = modelMoveBlock(s, block)
			}
			moved, ok := impl.MoveBlock(s, block)
			expectList(t, "MoveBlock", args(s, block), moved, ok, want, valid)
			exchanged, ok := impl.ExchangeBlocks(s, touchingExchange(block))
			expectList(t, "ExchangeBlocks", args(s, touchingExchange(block)), exchanged, ok, want, valid)
		}
	}
}

func TestNamedMovedBlocks(t *testing.T) {
	for _, c := range []struct {
		s, want []int
		block   impl.Block
	}{
		{[]int{2, 1}, []int{1, 2}, impl.Block{From: 1, Middle: 1, To: 2}},
		{[]int{3, 1, 2}, []int{1, 2, 3}, impl.Block{From: 1, Middle: 1, To: 3}},
		{[]int{3, 1, 2}, []int{2, 3, 1}, impl.Block{From: 1, Middle: 2, To: 3}},
		{[]int{3, 1, 2}, []int{3, 2, 1}, impl.Block{From: 2, Middle: 2, To: 3}},
		{[]int{1, 4, 5, 2, 3, 6}, []int{1, 2, 3, 4, 5, 6}, impl.Block{From: 2, Middle: 3, To: 5}},
		{modelSorted(9), []int{2, 3, 4, 5, 6, 7, 8, 9, 1}, impl.Block{From: 1, Middle: 1, To: 9}},
		{modelSorted(9), []int{9, 1, 2, 3, 4, 5, 6, 7, 8}, impl.Block{From: 1, Middle: 8, To: 9}},
		{modelSorted(9), []int{1, 2, 3, 4, 5, 6, 7, 9, 8}, impl.Block{From: 8, Middle: 8, To: 9}},
		{modelSorted(9), []int{1, 2, 6, 7, 3, 4, 5, 8, 9}, impl.Block{From: 3, Middle: 5, To: 7}},
	} {
		moved, ok := impl.MoveBlock(c.s, c.block)
		expectList(t, "MoveBlock", args(c.s, c.block), moved, ok, c.want, true)
	}
}

func TestBlocksAreMovedBack(t *testing.T) {
	for n := 1; n <= modelMaxStack; n++ {
		for _, block := range modelBlocks(n) {
			back, ok := impl.BackBlock(block)
			if !ok || !impl.IsBlock(n, back) {
				t.Error("BackBlock of", block, "is", back, ok)
			}
			for _, s := range [][]int{modelSorted(n), modelTurn(modelSorted(n), n), modelPlay(modelSorted(n), climbing(n, 7))} {
				moved, _ := impl.MoveBlock(s, block)
				again, ok := impl.MoveBlock(moved, back)
				expectList(t, "MoveBlock", args(moved, back), again, ok, s, true)
			}
			forth, ok := impl.BackBlock(back)
			expect(t, "BackBlock", args(back), forth, ok, block, true)
		}
	}
}

func TestNamedBackBlocks(t *testing.T) {
	for _, c := range [][2]impl.Block{
		{{From: 1, Middle: 1, To: 2}, {From: 1, Middle: 1, To: 2}},
		{{From: 1, Middle: 1, To: 3}, {From: 1, Middle: 2, To: 3}},
		{{From: 2, Middle: 3, To: 5}, {From: 2, Middle: 3, To: 5}},
		{{From: 3, Middle: 3, To: 9}, {From: 3, Middle: 8, To: 9}},
		{{From: 1, Middle: 8, To: 9}, {From: 1, Middle: 1, To: 9}},
	} {
		back, ok := impl.BackBlock(c[0])
		expect(t, "BackBlock", args(c[0]), back, ok, c[1], true)
	}
}

func TestBlocksThatAreNotMovedBack(t *testing.T) {
	for _, n := range []int{1, 2, 3, modelMaxStack, modelMaxStack + 2} {
		for _, block := range someBlocks(n) {
			if back, ok := impl.BackBlock(block); ok != modelIsBlock(modelMaxStack, block) || !ok && back != (impl.Block{}) {
				t.Error("BackBlock of", block, "is", back, ok)
			}
		}
	}
}

func TestExchangedBlocks(t *testing.T) {
	for _, s := range append(someStacks(), noStacks()...) {
		for _, exchange := range someExchanges(min(len(s), 10)) {
			var want []int
			valid := modelIsStack(s) && modelIsExchange(len(s), exchange)
			if valid {
				want = modelExchange(s, exchange)
			}
			exchanged, ok := impl.ExchangeBlocks(s, exchange)
			expectList(t, "ExchangeBlocks", args(s, exchange), exchanged, ok, want, valid)
		}
	}
}

// TestNamedExchangedBlocks has blocks that touch, and blocks with pancakes between them.
func TestNamedExchangedBlocks(t *testing.T) {
	for _, c := range []struct {
		s, want  []int
		exchange impl.Exchange
	}{
		{[]int{2, 1}, []int{1, 2}, impl.Exchange{First: 1, Second: 1, Third: 2, Last: 2}},
		{[]int{3, 2, 1}, []int{1, 2, 3}, impl.Exchange{First: 1, Second: 1, Third: 3, Last: 3}},
		{[]int{3, 1, 2}, []int{1, 2, 3}, impl.Exchange{First: 1, Second: 1, Third: 2, Last: 3}},
		{[]int{1, 4, 5, 2, 3, 6}, []int{1, 2, 3, 4, 5, 6}, impl.Exchange{First: 2, Second: 3, Third: 4, Last: 5}},
		{[]int{5, 6, 3, 4, 1, 2}, []int{1, 2, 3, 4, 5, 6}, impl.Exchange{First: 1, Second: 2, Third: 5, Last: 6}},
		{[]int{7, 8, 9, 2, 3, 4, 5, 6, 1}, []int{1, 2, 3, 4, 5, 6, 7, 8, 9}, impl.Exchange{First: 1, Second: 3, Third: 9, Last: 9}},
		{modelSorted(9), []int{1, 6, 7, 8, 4, 5, 2, 3, 9}, impl.Exchange{First: 2, Second: 3, Third: 6, Last: 8}},
		{modelSorted(9), []int{9, 2, 3, 4, 5, 6, 7, 8, 1}, impl.Exchange{First: 1, Second: 1, Third: 9, Last: 9}},
		{modelSorted(9), []int{6, 7, 8, 9, 5, 1, 2, 3, 4}, impl.Exchange{First: 1, Second: 4, Third: 6, Last: 9}},
		{modelSorted(9), []int{1, 2, 3, 4, 5, 6, 7, 9, 8}, impl.Exchange{First: 8, Second: 8, Third: 9, Last: 9}},
	} {
		exchanged, ok := impl.ExchangeBlocks(c.s, c.exchange)
		expectList(t, "ExchangeBlocks", args(c.s, c.exchange), exchanged, ok, c.want, true)
	}
}

// TestOnePancakeHasNoBlock has what each function makes of the stack of one pancake.
func TestOnePancakeHasNoBlock(t *testing.T) {
	s := []int{1}
	for _, block := range append(someBlocks(1), someBlocks(3)...) {
		if impl.IsBlock(1, block) {
			t.Error("a block move for one pancake", block)
		}
		moved, ok := impl.MoveBlock(s, block)
		expectList(t, "MoveBlock", args(s, block), moved, ok, nil, false)
	}
	for _, exchange := range append(someExchanges(1), someExchanges(3)...) {
		if impl.IsExchange(1, exchange) {
			t.Error("an exchange for one pancake", exchange)
		}
		exchanged, ok := impl.ExchangeBlocks(s, exchange)
		expectList(t, "ExchangeBlocks", args(s, exchange), exchanged, ok, nil, false)
	}
	cycles, ok := impl.CyclesOfStack(s)
	expectLists(t, "CyclesOfStack", args(s), cycles, ok, [][]int{{0}, {1}}, true)
	checkNoBlockIsMoved(t, s)
}

func TestNoBlockIsMovedOfSortedStacks(t *testing.T) {
	for n := 1; n <= modelMaxStack; n++ {
		checkNoBlockIsMoved(t, modelSorted(n))
	}
}

func checkNoBlockIsMoved(t *testing.T, s []int) {
	t.Helper()
	few := len(s) <= modelMaxBlocks
	breaks, ok := impl.BlockBreaks(s)
	expectList(t, "BlockBreaks", args(s), breaks, ok, nil, true)
	bound, ok := impl.BlockBound(s)
	expect(t, "BlockBound", args(s), bound, ok, 0, true)
	distance, ok := impl.BlockDistance(s)
	expect(t, "BlockDistance", args(s), distance, ok, 0, few)
	blocks, ok := impl.LeastBlocks(s)
	expectList(t, "LeastBlocks", args(s), blocks, ok, nil, few)
	cycles, ok := impl.CountCycles(s)
	expect(t, "CountCycles", args(s), cycles, ok, len(s)+1, true)
	distance, ok = impl.ExchangeDistance(s)
	expect(t, "ExchangeDistance", args(s), distance, ok, 0, true)
	exchanges, ok := impl.ExchangesToSort(s)
	expectList(t, "ExchangesToSort", args(s), exchanges, ok, nil, true)
	exchanges, ok = impl.LeastExchanges(s)
	expectList(t, "LeastExchanges", args(s), exchanges, ok, nil, few)
}

func TestBlockBreaks(t *testing.T) {
	for _, s := range append(stacksForBlocksAndOthers(), allStacks(7)...) {
		var want []int
		valid := modelIsStack(s)
		if valid {
			want = modelBlockBreaks(s)
		}
		breaks, ok := impl.BlockBreaks(s)
		expectList(t, "BlockBreaks", args(s), breaks, ok, want, valid)
		bound, ok := impl.BlockBound(s)
		expect(t, "BlockBound", args(s), bound, ok, (len(want)+2)/3, valid)
		if valid && slices.IsSorted(s) != (bound == 0) {
			t.Error("BlockBound of", s, "is", bound)
		}
	}
}

func TestNamedBlockBreaks(t *testing.T) {
	for _, c := range []struct {
		s, breaks []int
		bound     int
	}{
		{[]int{2, 1}, []int{0, 1, 2}, 1},
		{[]int{1, 3, 2}, []int{1, 2, 3}, 1},
		{[]int{3, 2, 1}, []int{0, 1, 2, 3}, 2},
		{[]int{2, 3, 1}, []int{0, 2, 3}, 1},
		{[]int{3, 4, 1, 2}, []int{0, 2, 4}, 1},
		{[]int{1, 4, 3, 2, 5}, []int{1, 2, 3, 4}, 2},
		{[]int{1, 2, 3, 4, 6, 5}, []int{4, 5, 6}, 1},
		{[]int{9, 8, 7, 6, 5, 4, 3, 2, 1}, []int{0, 1, 2, 3, 4, 5, 6, 7, 8, 9}, 4},
		{[]int{9, 1, 2, 3, 4, 5, 6, 7, 8}, []int{0, 1, 9}, 1},
		{[]int{2, 1, 4, 3, 6, 5, 7, 8, 9}, []int{0, 1, 2, 3, 4, 5, 6}, 3},
	} {
		breaks, ok := impl.BlockBreaks(c.s)
		expectList(t, "BlockBreaks", args(c.s), breaks, ok, c.breaks, true)
		bound, ok := impl.BlockBound(c.s)
		expect(t, "BlockBound", args(c.s), bound, ok, c.bound, true)
	}
}

func TestBlocksTakeAwayThreeBreaksAtMost(t *testing.T) {
	most := 0
	for _, s := range stacksForBlocks() {
		before, _ := impl.BlockBreaks(s)
		for _, block := range modelBlocks(len(s)) {
			moved, _ := impl.MoveBlock(s, block)
			behind, ok := impl.BlockBreaks(moved)
			taken := len(before) - len(behind)
			if !ok || taken > 3 || taken < -3 {
				t.Error("moving", block, "of", s, "takes away", taken, "breaks")
			}
			most = max(most, taken)
		}
	}
	if most != 3 {
		t.Error("block moves take away", most, "breaks at most")
	}
}

func TestCyclesOfStacks(t *testing.T) {
	for _, s := range append(stacksForBlocksAndOthers(), allStacks(7)...) {
		var want [][]int
		valid := modelIsStack(s)
		if valid {
			want = modelCycles(s)
		}
		cycles, ok := impl.CyclesOfStack(s)
		expectLists(t, "CyclesOfStack", args(s), cycles, ok, want, valid)
		count, ok := impl.CountCycles(s)
		expect(t, "CountCycles", args(s), count, ok, len(want), valid)
		if valid && slices.IsSorted(s) != (count == len(s)+1) {
			t.Error("CountCycles of", s, "is", count)
		}
		numbers := slices.Sorted(slices.Values(slices.Concat(cycles...)))
		if valid && !slices.Equal(numbers, append([]int{0}, modelSorted(len(s))...)) {
			t.Error("CyclesOfStack of", s, "have the numbers", numbers)
		}
	}
}

// TestNamedCycles has cycles of one number in front, between and last.
func TestNamedCycles(t *testing.T) {
	for _, c := range []struct {
		s      []int
		cycles [][]int
	}{
		{[]int{1}, [][]int{{0}, {1}}},
		{[]int{1, 2}, [][]int{{0}, {1}, {2}}},
		{[]int{2, 1}, [][]int{{0, 2, 1}}},
		{[]int{1, 3, 2}, [][]int{{0}, {1, 3, 2}}},
		{[]int{3, 1, 2}, [][]int{{0, 3, 2}, {1}}},
		{[]int{2, 3, 1}, [][]int{{0, 3, 1}, {2}}},
		{[]int{3, 2, 1}, [][]int{{0, 2}, {1, 3}}},
		{[]int{2, 1, 3}, [][]int{{0, 2, 1}, {3}}},
		{[]int{2, 4, 1, 3}, [][]int{{0, 4, 3, 2, 1}}},
		{[]int{1, 4, 3, 2, 5}, [][]int{{0}, {1, 3}, {2, 4}, {5}}},
		{[]int{9, 8, 7, 6, 5, 4, 3, 2, 1}, [][]int{{0, 2, 4, 6, 8}, {1, 3, 5, 7, 9}}},
	} {
		cycles, ok := impl.CyclesOfStack(c.s)
		expectLists(t, "CyclesOfStack", args(c.s), cycles, ok, c.cycles, true)
	}
}

func TestExchangesMakeTwoCyclesMoreAtMost(t *testing.T) {
	for _, s := range stacksForBlocks() {
		before, _ := impl.CountCycles(s)
		most := 0
		for _, exchange := range modelExchanges(len(s)) {
			exchanged, _ := impl.ExchangeBlocks(s, exchange)
			behind, ok := impl.CountCycles(exchanged)
			if made := behind - before; !ok || made != -2 && made != 0 && made != 2 {
				t.Error("the exchange", exchange, "of", s, "makes", made, "cycles more")
			}
			most = max(most, behind-before)
		}
		if slices.IsSorted(s) != (most == 0) {
			t.Error("exchanges of", s, "make", most, "cycles more at most")
		}
	}
}

func TestBlockDistances(t *testing.T) {
	for n := 1; n <= modelMaxBlocks; n++ {
		moves := modelBlocks(n)
		distances := modelMoveDistances(modelMoveBlock, n, moves)
		for _, s := range allStacks(n) {
			distance, ok := impl.BlockDistance(s)
			expect(t, "BlockDistance", args(s), distance, ok, distances[keyOf(s)], true)
			least, ok := impl.LeastBlocks(s)
			expectList(t, "LeastBlocks", args(s), least, ok, modelFirstList(modelMoveBlock, s, moves, distances), true)
			if bound, _ := impl.BlockBound(s); distance < bound {
				t.Error("BlockDistance of", s, "is", distance, "with the bound", bound)
			}
			if apart, _ := impl.ExchangeDistance(s); distance < apart {
				t.Error("BlockDistance of", s, "is", distance, "with the ExchangeDistance", apart)
			}
		}
	}
}

func TestLeastBlocksAreFirstShortestLists(t *testing.T) {
	for n := 1; n <= 5; n++ {
		checkShortest(t, modelMoveBlock, n, allListsOf(modelBlocks(n), 3), impl.LeastBlocks, impl.BlockDistance)
	}
}

func TestLeastExchangesAreFirstShortestLists(t *testing.T) {
	for n := 1; n <= 5; n++ {
		checkShortest(t, modelExchange, n, allListsOf(modelExchanges(n), 2), impl.LeastExchanges, impl.ExchangeDistance)
	}
}

// checkShortest looks through all lists of moves, the shortest first, for the
// first one that sorts a stack, and does so for all stacks of n pancakes.
func checkShortest[T comparable](t *testing.T, do modelMove[T], n int, lists [][]T, leastOf func([]int) ([]T, bool), distanceOf func([]int) (int, bool)) {
	t.Helper()
	for _, s := range allStacks(n) {
		want := modelFirstSorting(do, s, lists)
		least, ok := leastOf(s)
		expectList(t, "the least list", args(s), least, ok, want, true)
		distance, ok := distanceOf(s)
		expect(t, "the distance", args(s), distance, ok, len(want), true)
	}
}

func TestNamedLeastBlocks(t *testing.T) {
	for _, c := range []struct {
		s     []int
		least []impl.Block
	}{
		{[]int{2, 1}, blocksOf(1, 1, 2)},
		{[]int{3, 1, 2}, blocksOf(1, 1, 3)},
		{[]int{2, 3, 1}, blocksOf(1, 2, 3)},
		{[]int{3, 2, 1}, blocksOf(1, 1, 2, 1, 2, 3)},
		{[]int{1, 4, 5, 2, 3, 6}, blocksOf(2, 3, 5)},
		{[]int{4, 5, 6, 1, 2, 3}, blocksOf(1, 3, 6)},
		{[]int{1, 2, 3, 4, 6, 5}, blocksOf(5, 5, 6)},
	} {
		least, ok := impl.LeastBlocks(c.s)
		expectList(t, "LeastBlocks", args(c.s), least, ok, c.least, true)
	}
}

// TestCyclesTellExchanges holds the distances, which are read off cycles, against
// those that a search finds.
func TestCyclesTellExchanges(t *testing.T) {
	for n := 1; n <= 7; n++ {
		moves := modelExchanges(n)
		distances := modelMoveDistances(modelExchange, n, moves)
		for _, s := range allStacks(n) {
			distance, ok := impl.ExchangeDistance(s)
			expect(t, "ExchangeDistance", args(s), distance, ok, distances[keyOf(s)], true)
			want := modelFirstList(modelExchange, s, moves, distances)
			list, ok := impl.ExchangesToSort(s)
			expectList(t, "ExchangesToSort", args(s), list, ok, want, true)
			least, ok := impl.LeastExchanges(s)
			expectList(t, "LeastExchanges", args(s), least, ok, want, n <= modelMaxBlocks)
		}
	}
}

func TestExchangesToSort(t *testing.T) {
	for _, s := range stacksForBlocksAndOthers() {
		var want []impl.Exchange
		distance := 0
		valid := modelIsStack(s)
		if valid {
			want = modelExchangesToSort(s, modelExchanges(len(s)))
			distance = (len(s) + 1 - len(modelCycles(s))) / 2
		}
		list, ok := impl.ExchangesToSort(s)
		expectList(t, "ExchangesToSort", args(s), list, ok, want, valid)
		got, ok := impl.ExchangeDistance(s)
		expect(t, "ExchangeDistance", args(s), got, ok, distance, valid)
		if valid && (len(list) != distance || !slices.IsSorted(modelMoved(modelExchange, s, list))) {
			t.Error("ExchangesToSort of", s, "are", list, "with the distance", distance)
		}
	}
}

func TestNamedExchangesToSort(t *testing.T) {
	for _, c := range []struct {
		s    []int
		want []impl.Exchange
	}{
		{[]int{2, 1}, exchangesOf(1, 1, 2, 2)},
		{[]int{3, 1, 2}, exchangesOf(1, 1, 2, 3)},
		{[]int{3, 2, 1}, exchangesOf(1, 1, 3, 3)},
		{[]int{4, 3, 2, 1}, exchangesOf(1, 1, 2, 2, 1, 2, 4, 4)},
		{[]int{5, 6, 3, 4, 1, 2}, exchangesOf(1, 2, 5, 6)},
		{[]int{1, 2, 3, 4, 5, 6, 7, 9, 8}, exchangesOf(8, 8, 9, 9)},
		{[]int{9, 2, 3, 4, 5, 6, 7, 8, 1}, exchangesOf(1, 1, 9, 9)},
		{[]int{2, 3, 4, 5, 6, 7, 8, 9, 1}, exchangesOf(1, 8, 9, 9)},
	} {
		list, ok := impl.ExchangesToSort(c.s)
		expectList(t, "ExchangesToSort", args(c.s), list, ok, c.want, true)
		least, ok := impl.LeastExchanges(c.s)
		expectList(t, "LeastExchanges", args(c.s), least, ok, c.want, len(c.s) <= modelMaxBlocks)
	}
}

func TestStacksThatAreNotSearchedForBlocks(t *testing.T) {
	for _, s := range notFewBlocks() {
		distance, ok := impl.BlockDistance(s)
		expect(t, "BlockDistance", args(s), distance, ok, 0, false)
		blocks, ok := impl.LeastBlocks(s)
		expectList(t, "LeastBlocks", args(s), blocks, ok, nil, false)
		exchanges, ok := impl.LeastExchanges(s)
		expectList(t, "LeastExchanges", args(s), exchanges, ok, nil, false)
	}
}

// countsByBlocks are, as they are known, how many stacks have the BlockDistance 0, 1, ..
var countsByBlocks = [][]int{{1}, {1, 1}, {1, 4, 1}, {1, 10, 12, 1}, {1, 20, 68, 31}, {1, 35, 259, 380, 45}}

// countsByExchanges are the same for the ExchangeDistance.
var countsByExchanges = [][]int{{1}, {1, 1}, {1, 5}, {1, 15, 8}, {1, 35, 84}, {1, 70, 469, 180}}

func TestCountsByBlocksAndExchanges(t *testing.T) {
	for _, n := range someNumbers() {
		var byBlocks, byExchanges []int
		valid := isIn(n, modelMaxBlocks)
		if valid {
			byBlocks, byExchanges = countsByBlocks[n-1], countsByExchanges[n-1]
		}
		counts, ok := impl.CountByBlocks(n)
		expectList(t, "CountByBlocks", args(n), counts, ok, byBlocks, valid)
		counts, ok = impl.CountByExchanges(n)
		expectList(t, "CountByExchanges", args(n), counts, ok, byExchanges, valid)
	}
}

func TestBlockDistancesAreCounted(t *testing.T) {
	for n := 1; n <= modelMaxBlocks; n++ {
		var byBlocks, byExchanges [modelMaxStack]int
		for _, s := range allStacks(n) {
			distance, _ := impl.BlockDistance(s)
			byBlocks[distance]++
			distance, _ = impl.ExchangeDistance(s)
			byExchanges[distance]++
		}
		counts, ok := impl.CountByBlocks(n)
		expectList(t, "CountByBlocks", args(n), counts, ok, withoutEnd(byBlocks), true)
		counts, ok = impl.CountByExchanges(n)
		expectList(t, "CountByExchanges", args(n), counts, ok, withoutEnd(byExchanges), true)
	}
}

// withoutEnd returns the counts up to the last one that is not 0.
func withoutEnd(counts [modelMaxStack]int) []int {
	end := len(counts)
	for end > 0 && counts[end-1] == 0 {
		end--
	}
	return slices.Clone(counts[:end])
}
