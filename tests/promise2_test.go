package tests

import (
	"slices"
	"testing"

	"loop.example/g01221/impl"
)

// stacksForGaps are all stacks of six pancakes and fewer, some of each greater
// number, and lists that are no stacks.
func stacksForGaps() [][]int {
	return slices.Concat(someStacks(), allStacks(6), noStacks())
}

func expectLists(t *testing.T, call string, args []any, got [][]int, ok bool, want [][]int, wantOk bool) {
	t.Helper()
	if !wantOk {
		want = nil
	}
	if ok != wantOk || !slices.EqualFunc(got, want, slices.Equal[[]int]) {
		t.Errorf("%s of %v is %v, %v, not %v, %v", call, args, got, ok, want, wantOk)
	}
}

func TestExampleOfGaps(t *testing.T) {
	s := []int{3, 1, 2}
	got, ok := impl.GapsOf(s)
	expectList(t, "GapsOf", args(s), got, ok, []int{1, 3}, true)
	strips, ok := impl.StripsOf(s)
	expectLists(t, "StripsOf", args(s), strips, ok, [][]int{{3}, {1, 2}}, true)
	bound, ok := impl.LowerBound(s)
	expect(t, "LowerBound", args(s), bound, ok, 2, true)
	got, ok = impl.GreedyPlan(s)
	expectList(t, "GreedyPlan", args(s), got, ok, []int{3, 2}, true)
	four := []int{2, 4, 1, 3}
	got, ok = impl.GapsOf(four)
	expectList(t, "GapsOf", args(four), got, ok, []int{1, 2, 3, 4}, true)
	pairs, ok := impl.CountGoodPairs(four)
	expect(t, "CountGoodPairs", args(four), pairs, ok, 0, true)
}

func TestGaps(t *testing.T) {
	for _, s := range stacksForGaps() {
		valid := modelIsStack(s)
		want := modelGaps(s)
		got, ok := impl.GapsOf(s)
		expectList(t, "GapsOf", args(s), got, ok, want, valid)
		count, ok := impl.CountGaps(s)
		expect(t, "CountGaps", args(s), count, ok, len(want), valid)
		if valid && (count == 0) != slices.IsSorted(s) {
			t.Error("only sorted stacks have no gap, but", count, "are in", s)
		}
	}
}

func TestStrips(t *testing.T) {
	for _, s := range stacksForGaps() {
		valid := modelIsStack(s)
		strips, ok := impl.StripsOf(s)
		expectLists(t, "StripsOf", args(s), strips, ok, modelStrips(s), valid)
		pairs, ok := impl.CountGoodPairs(s)
		expect(t, "CountGoodPairs", args(s), pairs, ok, modelGoodPairs(s), valid)
		if valid && !slices.Equal(slices.Concat(strips...), s) {
			t.Error("the strips of", s, "are", strips)
		}
	}
}

// TestStripsGrowApart appends to each strip, which must not reach the next one.
func TestStripsGrowApart(t *testing.T) {
	for _, s := range someStacks() {
		strips, _ := impl.StripsOf(s)
		for _, strip := range strips {
			_ = append(strip, 77, 77)
		}
		expectLists(t, "StripsOf", args(s), strips, true, modelStrips(s), true)
	}
}

func TestStacksWithNamedGaps(t *testing.T) {
	for _, c := range []struct {
		s, gaps     []int
		strips      [][]int
		bound, good int
		turns       []int
	}{
		{[]int{1}, nil, [][]int{{1}}, 0, 0, nil},
		{[]int{1, 2}, nil, [][]int{{1, 2}}, 0, 1, nil},
		{[]int{2, 1}, []int{2}, [][]int{{2, 1}}, 1, 1, []int{2}},
		{[]int{3, 2, 1}, []int{3}, [][]int{{3, 2, 1}}, 1, 2, []int{3}},
		{[]int{2, 1, 3}, []int{2}, [][]int{{2, 1}, {3}}, 1, 1, []int{2}},
		{[]int{1, 3, 2}, []int{1, 3}, [][]int{{1}, {3, 2}}, 3, 1, nil},
		{[]int{2, 3, 1}, []int{2, 3}, [][]int{{2, 3}, {1}}, 2, 1, []int{2}},
		{[]int{1, 2, 4, 3}, []int{2, 4}, [][]int{{1, 2}, {4, 3}}, 3, 2, nil},
		{[]int{1, 2, 3, 4, 5, 6, 7, 8, 9}, nil, [][]int{{1, 2, 3, 4, 5, 6, 7, 8, 9}}, 0, 8, nil},
		{[]int{9, 8, 7, 6, 5, 4, 3, 2, 1}, []int{9}, [][]int{{9, 8, 7, 6, 5, 4, 3, 2, 1}}, 1, 8, []int{9}},
		{[]int{1, 2, 3, 4, 5, 6, 7, 9, 8}, []int{7, 9}, [][]int{{1, 2, 3, 4, 5, 6, 7}, {9, 8}}, 3, 7, nil},
		{[]int{9, 1, 8, 2, 7, 3, 6, 4, 5}, []int{1, 2, 3, 4, 5, 6, 7, 9}, [][]int{{9}, {1}, {8}, {2}, {7}, {3}, {6}, {4, 5}}, 8, 1, []int{2, 9}},
	} {
		gaps, ok := impl.GapsOf(c.s)
		expectList(t, "GapsOf", args(c.s), gaps, ok, c.gaps, true)
		strips, ok := impl.StripsOf(c.s)
		expectLists(t, "StripsOf", args(c.s), strips, ok, c.strips, true)
		bound, ok := impl.LowerBound(c.s)
		expect(t, "LowerBound", args(c.s), bound, ok, c.bound, true)
		good, ok := impl.CountGoodPairs(c.s)
		expect(t, "CountGoodPairs", args(c.s), good, ok, c.good, true)
		turns, ok := impl.GapTurns(c.s)
		expectList(t, "GapTurns", args(c.s), turns, ok, c.turns, true)
	}
}

func TestBounds(t *testing.T) {
	for _, s := range stacksForGaps() {
		valid := modelIsStack(s)
		turns, ok := impl.GapTurns(s)
		expectList(t, "GapTurns", args(s), turns, ok, modelGapTurns(s), valid)
		bound, ok := impl.LowerBound(s)
		expect(t, "LowerBound", args(s), bound, ok, modelLowerBound(s), valid)
	}
}

func TestNoFewerTurnsThanTheBoundSort(t *testing.T) {
	for n := 1; n <= 7; n++ {
		for w, distance := range modelDistances(n) {
			s := w[:n]
			bound, ok := impl.LowerBound(s)
			if !ok || bound > distance {
				t.Errorf("%d turns sort %v, but its bound is %d, %v", distance, s, bound, ok)
			}
			greedy, _ := impl.GreedyLength(s)
			byGaps, ok := impl.GapPlan(s)
			if !ok || greedy < distance || len(byGaps) < distance {
				t.Errorf("%d turns sort %v, but plans have %d and %d", distance, s, greedy, len(byGaps))
			}
		}
	}
}

func TestGreedyPlans(t *testing.T) {
	for _, s := range stacksForGaps() {
		valid := modelIsStack(s)
		want := modelGreedy(s)
		plan, ok := impl.GreedyPlan(s)
		expectList(t, "GreedyPlan", args(s), plan, ok, want, valid)
		length, ok := impl.GreedyLength(s)
		expect(t, "GreedyLength", args(s), length, ok, len(want), valid)
		if !valid {
			continue
		}
		sorts, ok := impl.SortsStack(s, plan)
		expect(t, "SortsStack", args(s, plan), sorts, ok, true, true)
		if length > max(0, 2*len(s)-3) || slices.Contains(plan, 1) {
			t.Error("GreedyPlan of", s, "is", plan)
		}
	}
}

func TestGapPlans(t *testing.T) {
	// No stack has a longer one than this one, of 18 turns, so that none is more than MaxPlan.
	longest := []int{1, 4, 9, 7, 5, 3, 6, 2, 8}
	for _, s := range append(stacksForGaps(), longest) {
		var want []int
		valid := modelIsStack(s)
		if valid {
			want, valid = modelGapPlan(s)
		}
		plan, ok := impl.GapPlan(s)
		expectList(t, "GapPlan", args(s), plan, ok, want, valid)
		if valid {
			sorts, ok := impl.SortsStack(s, plan)
			expect(t, "SortsStack", args(s, plan), sorts, ok, true, true)
		}
	}
}

func TestNamedPlans(t *testing.T) {
	for _, c := range []struct{ s, greedy, byGaps []int }{
		{[]int{1}, nil, nil},
		{[]int{2, 1}, []int{2}, []int{2}},
		{[]int{1, 2}, nil, nil},
		{[]int{1, 3, 2}, []int{2, 3, 2}, []int{2, 3, 2}},
		{[]int{2, 3, 1}, []int{2, 3}, []int{2, 3}},
		{[]int{2, 1, 3}, []int{2}, []int{2}},
		{[]int{1, 2, 4, 3}, []int{3, 4, 3, 2}, []int{3, 4, 3, 2}},
		{[]int{2, 4, 3, 1}, []int{2, 4, 2, 3, 2}, []int{3, 2, 4}},
		{[]int{2, 4, 1, 3}, []int{2, 4, 3, 2}, []int{2, 3, 3, 4, 3, 2}},
		{[]int{9, 8, 7, 6, 5, 4, 3, 2, 1}, []int{9}, []int{9}},
		{[]int{1, 2, 3, 4, 5, 6, 7, 8, 9}, nil, nil},
	} {
		plan, ok := impl.GreedyPlan(c.s)
		expectList(t, "GreedyPlan", args(c.s), plan, ok, c.greedy, true)
		plan, ok = impl.GapPlan(c.s)
		expectList(t, "GapPlan", args(c.s), plan, ok, c.byGaps, true)
	}
}

func TestTurnsTakeAwayOneGapAtMost(t *testing.T) {
	for _, s := range someStacks() {
		turns, _ := impl.GapTurns(s)
		for k := 1; k <= len(s); k++ {
			counts, ok := impl.GapsAlong(s, []int{k})
			if !ok || len(counts) != 2 || counts[1] < counts[0]-1 {
				t.Fatal("GapsAlong of", s, k, counts, ok)
			}
			waste, ok := impl.IsWaste(s, k)
			expect(t, "IsWaste", args(s, k), waste, ok, counts[1] > counts[0], true)
			if slices.Contains(turns, k) != (counts[1] == counts[0]-1) {
				t.Error("GapTurns of", s, turns, k, counts)
			}
		}
	}
}

func TestWaste(t *testing.T) {
	for _, s := range stacksForGaps() {
		for _, k := range someNumbers() {
			valid := modelIsStack(s) && isIn(k, len(s))
			more := valid && len(modelGaps(modelTurn(s, k))) > len(modelGaps(s))
			waste, ok := impl.IsWaste(s, k)
			expect(t, "IsWaste", args(s, k), waste, ok, more, valid)
			if waste && k == 1 {
				t.Error("the turn 1 changes nothing of", s)
			}
		}
	}
	waste, ok := impl.IsWaste([]int{1, 2, 3}, 2)
	expect(t, "IsWaste", args("1, 2, 3", 2), waste, ok, true, true)
}

func TestGapsAlongPlans(t *testing.T) {
	for _, s := range append(someStacks(), noStacks()...) {
		plans := somePlans(len(s)%modelMaxStack + 1)
		plans = append(plans, somePlans(min(max(len(s), 1), modelMaxStack))...)
		for _, plan := range plans {
			var want []int
			valid := modelIsStack(s) && modelIsPlan(len(s), plan)
			if valid {
				want = modelGapsAlong(s, plan)
			}
			got, ok := impl.GapsAlong(s, plan)
			expectList(t, "GapsAlong", args(s, plan), got, ok, want, valid)
		}
	}
}

// countsOfNoPairs are those that the document begins with, and, as they are
// known, of seven pancakes and more.
var countsOfNoPairs = []int{1, 0, 0, 2, 14, 90, 646, 5242, 47622}

func TestCountsOfNoPairs(t *testing.T) {
	for _, n := range someNumbers() {
		want := 0
		valid := isIn(n, modelMaxStack)
		if valid {
			want = countsOfNoPairs[n-1]
		}
		got, ok := impl.CountNoPairs(n)
		expect(t, "CountNoPairs", args(n), got, ok, want, valid)
	}
}

func TestStacksWithoutPairsAreCounted(t *testing.T) {
	for n := 1; n <= 7; n++ {
		count := 0
		var first []int
		for _, s := range allStacks(n) {
			if pairs, _ := impl.CountGoodPairs(s); pairs > 0 {
				continue
			}
			count++
			if first == nil {
				first = s
			}
		}
		got, ok := impl.CountNoPairs(n)
		expect(t, "CountNoPairs", args(n), got, ok, count, true)
		stack, ok := impl.FirstNoPair(n)
		expectList(t, "FirstNoPair", args(n), stack, ok, first, count > 0)
	}
}

func TestFirstStacksWithoutPairs(t *testing.T) {
	firsts := map[int][]int{
		1: {1}, 4: {2, 4, 1, 3}, 5: {1, 3, 5, 2, 4}, 6: {1, 3, 5, 2, 4, 6}, 7: {1, 3, 5, 2, 6, 4, 7},
		8: {1, 3, 5, 2, 6, 8, 4, 7}, 9: {1, 3, 5, 2, 4, 7, 9, 6, 8},
	}
	for _, n := range someNumbers() {
		want, valid := firsts[n]
		got, ok := impl.FirstNoPair(n)
		expectList(t, "FirstNoPair", args(n), got, ok, want, valid)
	}
}

func TestLongestGreedyPlans(t *testing.T) {
	for _, n := range someNumbers() {
		var want []int
		length := 0
		valid := isIn(n, modelMaxByGreedy)
		if valid {
			want, length = modelMostByGreedy(n)
		}
		s, got, ok := impl.MostByGreedy(n)
		expectList(t, "MostByGreedy", args(n), s, ok, want, valid)
		expect(t, "MostByGreedy", args(n), got, ok, length, valid)
	}
	for _, c := range []struct {
		s      []int
		length int
	}{{[]int{1}, 0}, {[]int{2, 1}, 1}, {[]int{1, 3, 2}, 3}, {[]int{2, 4, 3, 1}, 5}} {
		s, got, ok := impl.MostByGreedy(len(c.s))
		expectList(t, "MostByGreedy", args(len(c.s)), s, ok, c.s, true)
		expect(t, "MostByGreedy", args(len(c.s)), got, ok, c.length, true)
	}
}

func TestTwoTurns(t *testing.T) {
	for _, s := range stacksForGaps() {
		checkTwoTurns(t, s)
	}
	for n := 1; n <= modelMaxStack; n++ {
		for _, plan := range allPlans(n, 2) {
			checkTwoTurns(t, modelPlay(modelSorted(n), plan))
		}
	}
	for _, c := range []struct{ s, want []int }{
		{[]int{1}, nil}, {[]int{2, 1}, []int{2}}, {[]int{3, 2, 1}, []int{3}}, {[]int{2, 3, 1}, []int{2, 3}}, {[]int{3, 1, 2}, []int{3, 2}},
	} {
		got, ok := impl.TwoTurnSorts(c.s)
		expectList(t, "TwoTurnSorts", args(c.s), got, ok, c.want, true)
	}
	got, ok := impl.TwoTurnSorts([]int{1, 3, 2})
	expectList(t, "TwoTurnSorts", args("1, 3, 2"), got, ok, nil, false)
}

func checkTwoTurns(t *testing.T, s []int) {
	t.Helper()
	var want []int
	valid := modelIsStack(s)
	if valid {
		want, valid = modelTwoTurns(s)
	}
	got, ok := impl.TwoTurnSorts(s)
	expectList(t, "TwoTurnSorts", args(s), got, ok, want, valid)
}
