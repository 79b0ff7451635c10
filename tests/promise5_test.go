package tests

import (
	"slices"
	"testing"

	"loop.example/g01221/impl"
)

// longGames are the stacks of eight and of nine pancakes with the most steps.
func longGames() [][]int {
	return [][]int{{6, 1, 5, 7, 8, 3, 2, 4}, {6, 1, 5, 9, 7, 2, 8, 3, 4}}
}

// stacksForGames returns all stacks of six pancakes and fewer, and some of each greater number.
func stacksForGames() [][]int {
	return slices.Concat(someStacks(), allStacks(6), longGames(), [][]int{
		{7, 1, 2, 3, 4, 5, 6}, {2, 3, 4, 5, 6, 7, 8, 1}, {9, 8, 1, 2, 3, 4, 5, 6, 7}, {2, 1, 3, 4, 5, 6, 7, 8, 9}, {9, 2, 3, 4, 5, 6, 7, 8, 1},
	})
}

func stacksForGamesAndOthers() [][]int {
	return append(stacksForGames(), noStacks()...)
}

func TestLimitOfSteps(t *testing.T) {
	if impl.MaxSteps != modelMaxSteps {
		t.Error("limit", impl.MaxSteps)
	}
}

func TestExampleOfGames(t *testing.T) {
	s := []int{3, 1, 2}
	game, ok := impl.TopGame(s)
	expectLists(t, "TopGame", args(s), game, ok, [][]int{{3, 1, 2}, {2, 1, 3}, {1, 2, 3}}, true)
	steps, ok := impl.TopSteps(s)
	expect(t, "TopSteps", args(s), steps, ok, 2, true)
	longest, most, ok := impl.LongestTop(3)
	expectList(t, "LongestTop", args(3), longest, ok, []int{2, 3, 1}, true)
	expect(t, "LongestTop", args(3), most, ok, 2, true)
	_, most, ok = impl.LongestTop(4)
	expect(t, "LongestTop", args(4), most, ok, 4, true)
	before, ok := impl.StacksBefore([]int{1, 2, 3})
	expectLists(t, "StacksBefore", args("123"), before, ok, [][]int{{2, 1, 3}, {3, 2, 1}}, true)
}

// TestNamedGames has games whose tops have been written down.
func TestNamedGames(t *testing.T) {
	for _, c := range []struct{ s, tops, end []int }{
		{[]int{1}, []int{1}, []int{1}},
		{[]int{1, 2}, []int{1}, []int{1, 2}},
		{[]int{2, 1}, []int{2, 1}, []int{1, 2}},
		{[]int{1, 3, 2}, []int{1}, []int{1, 3, 2}},
		{[]int{2, 3, 1}, []int{2, 3, 1}, []int{1, 2, 3}},
		{[]int{3, 2, 1}, []int{3, 1}, []int{1, 2, 3}},
		{[]int{2, 4, 1, 3}, []int{2, 4, 3, 2, 1}, []int{1, 2, 3, 4}},
		{[]int{3, 1, 4, 5, 2}, []int{3, 4, 5, 2, 4, 3, 2, 1}, []int{1, 2, 3, 4, 5}},
		{[]int{1, 9, 8, 7, 6, 5, 4, 3, 2}, []int{1}, []int{1, 9, 8, 7, 6, 5, 4, 3, 2}},
		{[]int{9, 8, 7, 6, 5, 4, 3, 2, 1}, []int{9, 1}, []int{1, 2, 3, 4, 5, 6, 7, 8, 9}},
		{[]int{2, 3, 4, 5, 6, 7, 8, 9, 1}, []int{2, 3, 4, 5, 6, 7, 8, 9, 1}, []int{1, 8, 6, 4, 2, 3, 5, 7, 9}},
		{[]int{6, 1, 5, 7, 8, 3, 2, 4}, []int{6, 3, 7, 2, 6, 8, 4, 2, 6, 5, 2, 7, 3, 5, 4, 6, 2, 5, 3, 4, 2, 3, 1}, modelSorted(8)},
		{[]int{6, 1, 5, 9, 7, 2, 8, 3, 4}, []int{6, 2, 7, 8, 3, 2, 7, 6, 2, 3, 9, 4, 6, 5, 7, 3, 5, 4, 6, 8, 2, 7, 5, 6, 2, 5, 3, 4, 2, 3, 1}, modelSorted(9)},
	} {
		tops, ok := impl.TopsSeen(c.s)
		expectList(t, "TopsSeen", args(c.s), tops, ok, c.tops, true)
		steps, ok := impl.TopSteps(c.s)
		expect(t, "TopSteps", args(c.s), steps, ok, len(c.tops)-1, true)
		end, ok := impl.TopEnd(c.s)
		expectList(t, "TopEnd", args(c.s), end, ok, c.end, true)
	}
}

func TestGames(t *testing.T) {
	for _, s := range stacksForGamesAndOthers() {
		valid := modelIsStack(s)
		game := [][]int{nil}
		if valid {
			game = modelTopGame(s)
		}
		got, ok := impl.TopGame(s)
		expectLists(t, "TopGame", args(s), got, ok, game, valid)
		steps, ok := impl.TopSteps(s)
		expect(t, "TopSteps", args(s), steps, ok, len(game)-1, valid)
		end, ok := impl.TopEnd(s)
		expectList(t, "TopEnd", args(s), end, ok, game[len(game)-1], valid)
		home, ok := impl.IsHome(s)
		expect(t, "IsHome", args(s), home, ok, len(game) == 1, valid)
		if !valid {
			tops, ok := impl.TopsSeen(s)
			expectList(t, "TopsSeen", args(s), tops, ok, nil, false)
			continue
		}
		tops, ok := impl.TopsSeen(s)
		expectList(t, "TopsSeen", args(s), tops, ok, modelTops(game), true)
	}
}

func TestOneTurnOfGames(t *testing.T) {
	for _, s := range stacksForGamesAndOthers() {
		var want []int
		valid := modelIsStack(s) && s[0] != 1
		if valid {
			want = modelTurn(s, s[0])
		}
		got, ok := impl.TopStep(s)
		expectList(t, "TopStep", args(s), got, ok, want, valid)
	}
}

func TestGamesEndWithOneOnTop(t *testing.T) {
	for _, s := range append(stacksForGames(), allStacks(7)...) {
		end, ok := impl.TopEnd(s)
		if !ok || len(end) != len(s) || end[0] != 1 {
			t.Error("TopEnd of", s, "is", end, ok)
		}
		home, ok := impl.IsHome(end)
		expect(t, "IsHome", args(end), home, ok, true, true)
		steps, ok := impl.TopSteps(end)
		expect(t, "TopSteps", args(end), steps, ok, 0, true)
		next, ok := impl.TopStep(end)
		expectList(t, "TopStep", args(end), next, ok, nil, false)
		if steps, _ := impl.TopSteps(s); steps > impl.MaxSteps {
			t.Error("TopSteps of", s, "is", steps)
		}
	}
}

// TestStacksThatAreHomeAtOnce has games of no turn.
func TestStacksThatAreHomeAtOnce(t *testing.T) {
	for n := 1; n <= modelMaxStack; n++ {
		for k := 1; k <= n; k++ {
			below := slices.DeleteFunc(modelTurn(modelSorted(n), k), func(size int) bool { return size == 1 })
			s := append([]int{1}, below...)
			home, ok := impl.IsHome(s)
			expect(t, "IsHome", args(s), home, ok, true, true)
			game, ok := impl.TopGame(s)
			expectLists(t, "TopGame", args(s), game, ok, [][]int{s}, true)
			end, ok := impl.TopEnd(s)
			expectList(t, "TopEnd", args(s), end, ok, s, true)
			tops, ok := impl.TopsSeen(s)
			expectList(t, "TopsSeen", args(s), tops, ok, []int{1}, true)
			steps, ok := impl.TopSteps(s)
			expect(t, "TopSteps", args(s), steps, ok, 0, true)
			next, ok := impl.TopStep(s)
			expectList(t, "TopStep", args(s), next, ok, nil, false)
		}
	}
}

func TestGamesGoOnFromEachOfTheirStacks(t *testing.T) {
	for _, s := range stacksForGames() {
		game, _ := impl.TopGame(s)
		for i, from := range game {
			rest, ok := impl.TopGame(from)
			expectLists(t, "TopGame", args(from), rest, ok, game[i:], true)
			next, ok := impl.TopStep(from)
			if i < len(game)-1 {
				expectList(t, "TopStep", args(from), next, ok, game[i+1], true)
			}
		}
	}
}

func TestStepsBackLeadToLongerGames(t *testing.T) {
	for _, s := range stacksForGames() {
		steps, _ := impl.TopSteps(s)
		end, _ := impl.TopEnd(s)
		before, ok := impl.StacksBefore(s)
		if !ok {
			t.Error("StacksBefore of", s, "fails")
		}
		for _, b := range before {
			next, ok := impl.TopStep(b)
			expectList(t, "TopStep", args(b), next, ok, s, true)
			longer, ok := impl.TopSteps(b)
			expect(t, "TopSteps", args(b), longer, ok, steps+1, true)
			same, ok := impl.TopEnd(b)
			expectList(t, "TopEnd", args(b), same, ok, end, true)
		}
	}
}

func TestStacksBefore(t *testing.T) {
	for n := 1; n <= 7; n++ {
		befores := modelBefores(n)
		for _, s := range allStacks(n) {
			before, ok := impl.StacksBefore(s)
			expectLists(t, "StacksBefore", args(s), before, ok, befores[keyOf(s)], true)
		}
	}
	for _, s := range noStacks() {
		before, ok := impl.StacksBefore(s)
		expectLists(t, "StacksBefore", args(s), before, ok, nil, false)
	}
}

func TestNamedStacksBefore(t *testing.T) {
	var ofSorted [][]int
	for k := 2; k <= 9; k++ {
		ofSorted = append(ofSorted, modelTurn(modelSorted(9), k))
	}
	for _, c := range []struct {
		s    []int
		want [][]int
	}{
		{[]int{1}, nil},
		{[]int{2, 1}, nil},
		{[]int{1, 2}, [][]int{{2, 1}}},
		{[]int{2, 3, 1}, nil},
		{[]int{3, 2, 1}, [][]int{{2, 3, 1}}},
		{[]int{2, 1, 3}, [][]int{{3, 1, 2}}},
		{[]int{9, 8, 7, 6, 5, 4, 3, 2, 1}, [][]int{{5, 6, 7, 8, 9, 4, 3, 2, 1}}},
		{[]int{8, 1, 2, 3, 4, 5, 6, 7, 9}, [][]int{{9, 7, 6, 5, 4, 3, 2, 1, 8}}},
		{modelSorted(9), ofSorted},
	} {
		before, ok := impl.StacksBefore(c.s)
		expectLists(t, "StacksBefore", args(c.s), before, ok, c.want, true)
	}
}

// countsOfSteps are how many stacks of n pancakes have 0, 1, .. steps, the last one how many have the most.
var countsOfSteps = [][]int{
	{1}, {1, 1}, {2, 2, 2}, {6, 6, 6, 4, 2}, {24, 24, 24, 20, 14, 8, 5, 1}, {120, 120, 120, 104, 82, 60, 43, 34, 19, 13, 5},
	{720, 720, 720, 648, 548, 440, 338, 268, 218, 160, 104, 65, 44, 26, 14, 5, 2},
	{5040, 5040, 5040, 4608, 4020, 3360, 2750, 2324, 1943, 1607, 1274, 958, 726, 551, 409, 277, 182, 122, 61, 21, 4, 2, 1},
}

var longestTops = [][]int{{1}, {2, 1}, {2, 3, 1}, {2, 4, 1, 3}, {3, 1, 4, 5, 2}, {3, 6, 5, 1, 4, 2}, {3, 1, 4, 6, 7, 5, 2}, {6, 1, 5, 7, 8, 3, 2, 4}}

func TestLongestGames(t *testing.T) {
	for _, n := range someNumbers() {
		var first, counts []int
		most, many := 0, 0
		valid := isIn(n, modelMaxLongest)
		if valid {
			first, counts = longestTops[n-1], countsOfSteps[n-1]
			most, many = len(counts)-1, counts[len(counts)-1]
		}
		longest, steps, ok := impl.LongestTop(n)
		expectList(t, "LongestTop", args(n), longest, ok, first, valid)
		expect(t, "LongestTop", args(n), steps, ok, most, valid)
		count, ok := impl.CountLongest(n)
		expect(t, "CountLongest", args(n), count, ok, many, valid)
		all, ok := impl.CountBySteps(n)
		expectList(t, "CountBySteps", args(n), all, ok, counts, valid)
	}
}

// TestLongestGamesAmongAll plays the games of all stacks.
func TestLongestGamesAmongAll(t *testing.T) {
	for n := 1; n <= modelMaxLongest; n++ {
		most, counts := modelLongest(n)
		longest, steps, ok := impl.LongestTop(n)
		expectList(t, "LongestTop", args(n), longest, ok, most[0], true)
		expect(t, "LongestTop", args(n), steps, ok, len(counts)-1, true)
		many, ok := impl.CountLongest(n)
		expect(t, "CountLongest", args(n), many, ok, len(most), true)
		got, ok := impl.CountBySteps(n)
		expectList(t, "CountBySteps", args(n), got, ok, counts, true)
		same, ok := impl.TopSteps(longest)
		expect(t, "TopSteps", args(longest), same, ok, steps, true)
	}
}

func TestStepsAreCounted(t *testing.T) {
	for n := 1; n <= 7; n++ {
		counts, _ := impl.CountBySteps(n)
		for _, s := range allStacks(n) {
			steps, ok := impl.TopSteps(s)
			if !ok || steps >= len(counts) {
				t.Fatal("TopSteps of", s, steps, ok, counts)
			}
			counts[steps]--
		}
		if slices.ContainsFunc(counts, func(left int) bool { return left != 0 }) {
			t.Errorf("CountBySteps of %d differs by %v from the steps", n, counts)
		}
	}
}

func TestBottomGames(t *testing.T) {
	for _, s := range append(stacksForGamesAndOthers(), allStacks(7)...) {
		want := 0
		valid := modelIsStack(s)
		if valid {
			want = modelBottomGame(s)
		}
		turns, ok := impl.BottomGame(s)
		expect(t, "BottomGame", args(s), turns, ok, want, valid)
	}
}

func TestNamedBottomGames(t *testing.T) {
	for _, c := range []struct {
		s     []int
		turns int
	}{
		{[]int{1}, 0},
		{[]int{2, 1}, 0},
		{[]int{1, 2}, 1},
		{[]int{2, 3, 1}, 0},
		{[]int{1, 2, 3}, 1},
		{[]int{3, 1, 2}, 1},
		{[]int{2, 1, 3}, 2},
		{[]int{9, 8, 7, 6, 5, 4, 3, 2, 1}, 0},
		{[]int{1, 2, 3, 4, 5, 6, 7, 8, 9}, 1},
		{[]int{9, 7, 6, 5, 4, 3, 2, 1, 8}, 1},
		{[]int{2, 1, 3, 4, 5, 6, 7, 8, 9}, 2},
	} {
		turns, ok := impl.BottomGame(c.s)
		expect(t, "BottomGame", args(c.s), turns, ok, c.turns, true)
	}
}

func TestCountGames(t *testing.T) {
	for _, s := range stacksForGamesAndOthers() {
		for _, k := range someNumbers() {
			var want []int
			valid := modelIsStack(s) && 0 <= k && k <= modelMaxStack
			if valid {
				want = modelCountGame(s, k)
			}
			order, ok := impl.CountGame(s, k)
			expectList(t, "CountGame", args(s, k), order, ok, want, valid)
			if valid && !impl.IsStack(order) {
				t.Error("CountGame of", s, k, "is", order)
			}
		}
	}
}

func TestNamedCountGames(t *testing.T) {
	for _, c := range []struct {
		n, k int
		want []int
	}{
		{1, 0, []int{1}},
		{1, 9, []int{1}},
		{2, 1, []int{2, 1}},
		{3, 1, []int{2, 1, 3}},
		{3, 2, []int{3, 1, 2}},
		{3, 3, []int{1, 3, 2}},
		{9, 0, []int{1, 2, 3, 4, 5, 6, 7, 8, 9}},
		{9, 1, []int{2, 4, 6, 8, 1, 5, 9, 7, 3}},
		{9, 2, []int{3, 6, 9, 4, 8, 5, 2, 7, 1}},
		{9, 8, []int{9, 1, 3, 6, 4, 5, 2, 7, 8}},
		{9, 9, []int{1, 3, 6, 2, 9, 5, 7, 4, 8}},
	} {
		order, ok := impl.CountGame(modelSorted(c.n), c.k)
		expectList(t, "CountGame", args(c.n, c.k), order, ok, c.want, true)
		// The places tell the order, so that other sizes at them are taken off as these are.
		other := modelTurn(modelSorted(c.n), c.n)
		order, ok = impl.CountGame(other, c.k)
		then, _ := impl.ThenStack(other, c.want)
		expectList(t, "CountGame", args(other, c.k), order, ok, then, true)
	}
}

func TestCardGames(t *testing.T) {
	for _, s := range stacksForGamesAndOthers() {
		for _, k := range someNumbers() {
			first, more := 0, 0
			valid := modelIsStack(s) && isIn(k, len(s))
			if valid {
				first, more = modelCardGame(s, k)
			}
			gotFirst, gotMore, ok := impl.CardGame(s, k)
			expect(t, "CardGame", args(s, k), gotFirst, ok, first, valid)
			expect(t, "CardGame", args(s, k), gotMore, ok, more, valid)
		}
	}
}

// lengthsOfCards are for n pancakes and k, 1 and more, how many steps lead to the first stack again.
var lengthsOfCards = [][]int{
	{1}, {2, 2}, {3, 2, 2}, {4, 4, 2, 2}, {5, 6, 4, 2, 2}, {6, 6, 4, 4, 2, 2}, {7, 12, 12, 4, 4, 2, 2}, {8, 8, 6, 4, 4, 4, 2, 2}, {9, 20, 6, 12, 4, 4, 4, 2, 2},
}

func TestLengthsOfCardGames(t *testing.T) {
	for i, lengths := range lengthsOfCards {
		s := modelSorted(i + 1)
		for j, length := range lengths {
			first, more, ok := impl.CardGame(s, j+1)
			expect(t, "CardGame", args(s, j+1), first, ok, 0, true)
			expect(t, "CardGame", args(s, j+1), more, ok, length, true)
		}
	}
}

func checkTree(t *testing.T, s []int, size int, depth int, valid bool) {
	t.Helper()
	got, ok := impl.TreeSize(s)
	expect(t, "TreeSize", args(s), got, ok, size, valid)
	got, ok = impl.DepthBefore(s)
	expect(t, "DepthBefore", args(s), got, ok, depth, valid)
}

func TestTrees(t *testing.T) {
	for n := 1; n <= 7; n++ {
		sizes, depths := modelTrees(n)
		for _, s := range allStacks(n) {
			checkTree(t, s, sizes[keyOf(s)], depths[keyOf(s)], true)
		}
	}
	for _, s := range noStacks() {
		checkTree(t, s, 0, 0, false)
	}
}

// TestNamedTrees has trees that were told by the games of all stacks of so many pancakes.
func TestNamedTrees(t *testing.T) {
	for _, c := range []struct {
		s           []int
		size, depth int
	}{
		{[]int{1}, 1, 0},
		{[]int{2, 1}, 1, 0},
		{[]int{1, 2}, 2, 1},
		{[]int{1, 2, 3}, 5, 2},
		{modelSorted(8), 1867, 22},
		{modelSorted(9), 9718, 30},
		{[]int{1, 3, 2, 4, 5, 6, 7, 8, 9}, 5583, 25},
		{[]int{2, 1, 3, 4, 5, 6, 7, 8, 9}, 5204, 26},
		{[]int{3, 2, 1, 4, 5, 6, 7, 8, 9}, 4259, 29},
		{[]int{1, 9, 8, 7, 6, 5, 4, 3, 2}, 1, 0},
		{[]int{9, 8, 7, 6, 5, 4, 3, 2, 1}, 2, 1},
		{[]int{2, 3, 4, 5, 6, 7, 8, 9, 1}, 1, 0},
	} {
		checkTree(t, c.s, c.size, c.depth, true)
	}
}

// TestTreesOfStacksBefore makes trees of those of the stacks before.
func TestTreesOfStacksBefore(t *testing.T) {
	for _, s := range append(stacksForGames(), modelSorted(9)) {
		size, depth := 1, 0
		before, _ := impl.StacksBefore(s)
		for _, b := range before {
			part, _ := impl.TreeSize(b)
			below, _ := impl.DepthBefore(b)
			size += part
			depth = max(depth, below+1)
		}
		checkTree(t, s, size, depth, true)
	}
}

// TestTreesHaveAllStacks adds the trees of all stacks that are home: each stack is in one of them.
func TestTreesHaveAllStacks(t *testing.T) {
	all := 1
	for n := 1; n <= 7; n++ {
		all *= n
		sum, deepest := 0, 0
		for _, s := range allStacks(n) {
			if home, _ := impl.IsHome(s); !home {
				continue
			}
			size, _ := impl.TreeSize(s)
			depth, _ := impl.DepthBefore(s)
			sum += size
			deepest = max(deepest, depth)
		}
		_, most, _ := impl.LongestTop(n)
		if sum != all || deepest != most {
			t.Error("trees of", n, "pancakes have", sum, "stacks and up to", deepest, "turns, but there are", all, "and up to", most)
		}
	}
}
