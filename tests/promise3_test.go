package tests

import (
	"slices"
	"testing"

	"loop.example/g01221/impl"
)

// notSearched returns lists that are no stacks, and stacks of more than MaxSearch pancakes.
func notSearched() [][]int {
	lists := noStacks()
	for n := modelMaxSearch + 1; n <= modelMaxStack; n++ {
		s := modelSorted(n)
		lists = append(lists, s, modelTurn(s, n), modelTurn(s, 2), modelPlay(s, climbing(n, 5)))
	}
	return lists
}

// someSearched returns all stacks of up to four pancakes and some of each
// greater number up to MaxSearch, worst ones among them.
func someSearched() [][]int {
	var stacks [][]int
	for n := 1; n <= 4; n++ {
		stacks = append(stacks, allStacks(n)...)
	}
	for n := 5; n <= modelMaxSearch; n++ {
		s := modelSorted(n)
		stacks = append(stacks, s, modelTurn(s, n), modelTurn(s, 2), modelPlay(s, climbing(n, n)), modelPlay(s, climbing(n, 23)))
	}
	return append(stacks, []int{1, 3, 2}, []int{5, 3, 6, 1, 4, 2}, []int{4, 6, 2, 5, 1, 3}, []int{1, 3, 7, 5, 2, 6, 4}, []int{7, 3, 1, 5, 2, 6, 4})
}

func TestLimitOfSearch(t *testing.T) {
	if impl.MaxSearch != modelMaxSearch {
		t.Error("limit", impl.MaxSearch)
	}
}

func TestExampleOfDistances(t *testing.T) {
	s := []int{2, 3, 1}
	distance, ok := impl.StackDistance(s)
	expect(t, "StackDistance", args(s), distance, ok, 2, true)
	plan, ok := impl.LeastPlan(s)
	expectList(t, "LeastPlan", args(s), plan, ok, []int{2, 3}, true)
	counts, ok := impl.CountByTurns(3)
	expectList(t, "CountByTurns", args(3), counts, ok, []int{1, 2, 2, 1}, true)
	worst, ok := impl.WorstStacks(3)
	expectLists(t, "WorstStacks", args(3), worst, ok, [][]int{{1, 3, 2}}, true)
}

func TestNamedDistances(t *testing.T) {
	for _, c := range []struct {
		s               []int
		distance, plans int
		first, closer   []int
		gaps, greedy    int
	}{
		{[]int{1}, 0, 1, nil, nil, 0, 0},
		{[]int{1, 2}, 0, 1, nil, nil, 0, 0},
		{[]int{2, 1}, 1, 1, []int{2}, []int{2}, 0, 0},
		{[]int{3, 1, 2}, 2, 1, []int{3, 2}, []int{3}, 0, 0},
		{[]int{1, 3, 2}, 3, 2, []int{2, 3, 2}, []int{2, 3}, 1, 0},
		{[]int{2, 4, 1, 3}, 4, 2, []int{2, 4, 3, 2}, []int{2, 3}, 0, 0},
		{[]int{2, 4, 3, 1}, 3, 1, []int{3, 2, 4}, []int{3}, 0, 2},
		{[]int{1, 2, 3, 4, 5, 6, 7}, 0, 1, nil, nil, 0, 0},
		{[]int{7, 6, 5, 4, 3, 2, 1}, 1, 1, []int{7}, []int{7}, 0, 0},
	} {
		distance, ok := impl.StackDistance(c.s)
		expect(t, "StackDistance", args(c.s), distance, ok, c.distance, true)
		plans, ok := impl.CountLeastPlans(c.s)
		expect(t, "CountLeastPlans", args(c.s), plans, ok, c.plans, true)
		first, ok := impl.LeastPlan(c.s)
		expectList(t, "LeastPlan", args(c.s), first, ok, c.first, true)
		closer, ok := impl.CloserTurns(c.s)
		expectList(t, "CloserTurns", args(c.s), closer, ok, c.closer, true)
		gaps, ok := impl.GapExcess(c.s)
		expect(t, "GapExcess", args(c.s), gaps, ok, c.gaps, true)
		greedy, ok := impl.GreedyExcess(c.s)
		expect(t, "GreedyExcess", args(c.s), greedy, ok, c.greedy, true)
	}
}

func TestDistances(t *testing.T) {
	for n := 1; n <= modelMaxSearch; n++ {
		distances := modelDistances(n)
		for _, s := range allStacks(n) {
			want := distances[keyOf(s)]
			distance, ok := impl.StackDistance(s)
			expect(t, "StackDistance", args(s), distance, ok, want, true)
			closer, ok := impl.CloserTurns(s)
			expectList(t, "CloserTurns", args(s), closer, ok, modelCloser(s, distances), true)
			gaps, ok := impl.GapExcess(s)
			expect(t, "GapExcess", args(s), gaps, ok, want-len(modelGaps(s)), true)
			greedy, ok := impl.GreedyExcess(s)
			expect(t, "GreedyExcess", args(s), greedy, ok, len(modelGreedy(s))-want, true)
			if gaps < 0 || greedy < 0 {
				t.Error("less than no excess of", s, gaps, greedy)
			}
		}
	}
}

func TestLeastPlans(t *testing.T) {
	for n := 1; n <= modelMaxSearch; n++ {
		distances := modelDistances(n)
		for _, s := range allStacks(n) {
			plan, ok := impl.LeastPlan(s)
			expectList(t, "LeastPlan", args(s), plan, ok, modelFirstPlan(s, distances), true)
			count, ok := impl.CountLeastPlans(s)
			expect(t, "CountLeastPlans", args(s), count, ok, modelCountPlans(s, distances), true)
			sorts, ok := impl.SortsStack(s, plan)
			expect(t, "SortsStack", args(s, plan), sorts, ok, true, true)
			least, ok := impl.IsLeastPlan(s, plan)
			expect(t, "IsLeastPlan", args(s, plan), least, ok, true, true)
		}
	}
}

// TestLeastPlansAmongAll looks through all plans, also those with turns 1.
func TestLeastPlansAmongAll(t *testing.T) {
	for n := 1; n <= 5; n++ {
		plans := allPlans(n, n)
		for _, s := range allStacks(n) {
			want := modelLeastPlans(s, modelSorted(n), plans)
			distance, ok := impl.StackDistance(s)
			expect(t, "StackDistance", args(s), distance, ok, len(want[0]), true)
			plan, ok := impl.LeastPlan(s)
			expectList(t, "LeastPlan", args(s), plan, ok, want[0], true)
			count, ok := impl.CountLeastPlans(s)
			expect(t, "CountLeastPlans", args(s), count, ok, len(want), true)
		}
	}
}

func TestStacksThatAreNotSearched(t *testing.T) {
	for _, s := range notSearched() {
		distance, ok := impl.StackDistance(s)
		expect(t, "StackDistance", args(s), distance, ok, 0, false)
		plan, ok := impl.LeastPlan(s)
		expectList(t, "LeastPlan", args(s), plan, ok, nil, false)
		count, ok := impl.CountLeastPlans(s)
		expect(t, "CountLeastPlans", args(s), count, ok, 0, false)
		closer, ok := impl.CloserTurns(s)
		expectList(t, "CloserTurns", args(s), closer, ok, nil, false)
		excess, ok := impl.GapExcess(s)
		expect(t, "GapExcess", args(s), excess, ok, 0, false)
		excess, ok = impl.GreedyExcess(s)
		expect(t, "GreedyExcess", args(s), excess, ok, 0, false)
		least, ok := impl.IsLeastPlan(s, nil)
		expect(t, "IsLeastPlan", args(s, nil), least, ok, false, false)
		least, ok = impl.IsLeastPlan(s, []int{1})
		expect(t, "IsLeastPlan", args(s, 1), least, ok, false, false)
	}
}

// countsByTurns are, as they are known, how many stacks have the distances 0, 1, ..
var countsByTurns = [][]int{
	{1}, {1, 1}, {1, 2, 2, 1}, {1, 3, 6, 11, 3}, {1, 4, 12, 35, 48, 20},
	{1, 5, 20, 79, 199, 281, 133, 2}, {1, 6, 30, 149, 543, 1357, 1903, 1016, 35},
}

// worstDistances are those of the document.
var worstDistances = []int{0, 1, 3, 4, 5, 7, 8}

func TestLayers(t *testing.T) {
	for _, n := range someNumbers() {
		var want []int
		worst := 0
		valid := isIn(n, modelMaxSearch)
		if valid {
			want, worst = countsByTurns[n-1], worstDistances[n-1]
		}
		counts, ok := impl.CountByTurns(n)
		expectList(t, "CountByTurns", args(n), counts, ok, want, valid)
		distance, ok := impl.WorstDistance(n)
		expect(t, "WorstDistance", args(n), distance, ok, worst, valid)
	}
}

func TestLayersHaveAllStacks(t *testing.T) {
	for n := 1; n <= modelMaxSearch; n++ {
		counts, ok := impl.CountByTurns(n)
		all := allStacks(n)
		sum := 0
		for _, count := range counts {
			sum += count
		}
		if !ok || sum != len(all) {
			t.Errorf("CountByTurns of %d is %v, %v, of %d stacks", n, counts, ok, len(all))
		}
		for _, s := range all {
			distance, _ := impl.StackDistance(s)
			counts[distance]--
		}
		if slices.ContainsFunc(counts, func(left int) bool { return left != 0 }) {
			t.Errorf("CountByTurns of %d differs by %v from the distances", n, counts)
		}
	}
}

func TestWorstStacks(t *testing.T) {
	for _, n := range someNumbers() {
		var want [][]int
		valid := isIn(n, modelMaxSearch)
		if valid {
			distances := modelDistances(n)
			want = slices.DeleteFunc(allStacks(n), func(s []int) bool { return distances[keyOf(s)] < worstDistances[n-1] })
		}
		worst, ok := impl.WorstStacks(n)
		expectLists(t, "WorstStacks", args(n), worst, ok, want, valid)
	}
	for _, want := range [][][]int{
		{{1}}, {{2, 1}}, {{2, 4, 1, 3}, {3, 1, 4, 2}, {4, 2, 3, 1}}, {{4, 6, 2, 5, 1, 3}, {5, 3, 6, 1, 4, 2}},
	} {
		n := len(want[0])
		worst, ok := impl.WorstStacks(n)
		expectLists(t, "WorstStacks", args(n), worst, ok, want, true)
	}
}

// checkBetween holds what is between two stacks against the distances from each of them.
func checkBetween(t *testing.T, s []int, to []int, fromS map[modelKey]int, fromT map[modelKey]int) {
	t.Helper()
	want := fromT[keyOf(s)]
	distance, ok := impl.DistanceBetween(s, to)
	expect(t, "DistanceBetween", args(s, to), distance, ok, want, true)
	plan, ok := impl.PlanBetween(s, to)
	expectList(t, "PlanBetween", args(s, to), plan, ok, modelFirstPlan(s, fromT), true)
	middle, ok := impl.MiddleStacks(s, to)
	expect(t, "MiddleStacks", args(s, to), middle, ok, modelMiddle(fromS, fromT, to), true)
}

func TestAllPairsOfFewPancakes(t *testing.T) {
	for n := 1; n <= 4; n++ {
		plans := allPlans(n, n)
		for _, s := range allStacks(n) {
			fromS := modelDistancesFrom(s)
			for _, to := range allStacks(n) {
				checkBetween(t, s, to, fromS, modelDistancesFrom(to))
				plan, ok := impl.PlanBetween(s, to)
				expectList(t, "PlanBetween", args(s, to), plan, ok, modelLeastPlans(s, to, plans)[0], true)
			}
		}
	}
}

func TestPairsOfMorePancakes(t *testing.T) {
	for n := 5; n <= modelMaxSearch; n++ {
		all := allStacks(n)
		for i := 0; i < len(all); i += len(all)/6 + 1 {
			s := all[i]
			fromS := modelDistancesFrom(s)
			checkBetween(t, s, s, fromS, fromS)
			for j := 3; j < len(all); j += len(all)/9 + 1 {
				checkBetween(t, s, all[j], fromS, modelDistancesFrom(all[j]))
			}
		}
	}
}

func TestDistancesBetweenAreThoseOfStacks(t *testing.T) {
	for _, s := range someSearched() {
		sorted := modelSorted(len(s))
		distance, _ := impl.StackDistance(s)
		there, ok := impl.DistanceBetween(s, sorted)
		expect(t, "DistanceBetween", args(s, sorted), there, ok, distance, true)
		back, ok := impl.DistanceBetween(sorted, s)
		expect(t, "DistanceBetween", args(sorted, s), back, ok, distance, true)
		least, _ := impl.LeastPlan(s)
		plan, ok := impl.PlanBetween(s, sorted)
		expectList(t, "PlanBetween", args(s, sorted), plan, ok, least, true)
	}
}

func TestSameStacksHaveNothingBetween(t *testing.T) {
	for _, s := range someSearched() {
		distance, ok := impl.DistanceBetween(s, s)
		expect(t, "DistanceBetween", args(s, s), distance, ok, 0, true)
		plan, ok := impl.PlanBetween(s, s)
		expectList(t, "PlanBetween", args(s, s), plan, ok, nil, true)
		middle, ok := impl.MiddleStacks(s, s)
		expect(t, "MiddleStacks", args(s, s), middle, ok, 1, true)
	}
}

func TestPairsThatAreNotSearched(t *testing.T) {
	check := func(s []int, to []int) {
		t.Helper()
		distance, ok := impl.DistanceBetween(s, to)
		expect(t, "DistanceBetween", args(s, to), distance, ok, 0, false)
		plan, ok := impl.PlanBetween(s, to)
		expectList(t, "PlanBetween", args(s, to), plan, ok, nil, false)
		middle, ok := impl.MiddleStacks(s, to)
		expect(t, "MiddleStacks", args(s, to), middle, ok, 0, false)
	}
	for _, bad := range notSearched() {
		check(bad, bad)
		for _, s := range someSearched() {
			check(s, bad)
			check(bad, s)
		}
	}
	for _, s := range someSearched() {
		for _, to := range someSearched() {
			if len(s) != len(to) {
				check(s, to)
			}
		}
	}
}

func TestLeastPlansAreTold(t *testing.T) {
	for n := 1; n <= 4; n++ {
		for _, s := range allStacks(n) {
			distances := modelDistancesFrom(s)
			for _, plan := range allPlans(n, n+1) {
				want := len(plan) == distances[keyOf(modelPlay(s, plan))]
				least, ok := impl.IsLeastPlan(s, plan)
				expect(t, "IsLeastPlan", args(s, plan), least, ok, want, true)
				if least && slices.Contains(plan, 1) {
					t.Error("a least plan with a turn 1", s, plan)
				}
			}
		}
	}
}

func TestPlansOfMorePancakesAreTold(t *testing.T) {
	for _, s := range someSearched() {
		distances := modelDistancesFrom(s)
		lists := append(somePlans(len(s)), somePlans(len(s)+1)...)
		for length := range 10 {
			lists = append(lists, climbing(len(s), length+1)[1:])
		}
		for _, plan := range lists {
			valid := modelIsPlan(len(s), plan)
			want := valid && len(plan) == distances[keyOf(modelPlay(s, plan))]
			least, ok := impl.IsLeastPlan(s, plan)
			expect(t, "IsLeastPlan", args(s, plan), least, ok, want, valid)
		}
	}
}

func TestNamedPlansAreTold(t *testing.T) {
	for _, c := range []struct {
		s, plan []int
		want    bool
	}{
		{[]int{1}, nil, true}, {[]int{1}, []int{1}, false}, {[]int{2, 1}, []int{2}, true}, {[]int{2, 1}, []int{2, 2}, false},
		{[]int{2, 3, 1}, []int{2, 3}, true}, {[]int{2, 3, 1}, []int{2, 1, 3}, false}, {[]int{2, 3, 1}, []int{2, 3, 2}, true},
		{[]int{2, 3, 1}, []int{3, 2, 3}, true}, {[]int{2, 3, 1}, []int{3, 2, 3, 2}, false}, {[]int{2, 3, 1}, []int{3}, true},
		{[]int{7, 6, 5, 4, 3, 2, 1}, []int{7, 6, 5}, true}, {[]int{7, 6, 5, 4, 3, 2, 1}, repeated(7, 40), false},
	} {
		least, ok := impl.IsLeastPlan(c.s, c.plan)
		expect(t, "IsLeastPlan", args(c.s, c.plan), least, ok, c.want, true)
	}
}

// closedPlans are those of 0, 1, .., 8 turns for 1, 2, .., 7 pancakes. The first
// three rows are those of a point, of one edge and of a round of six edges.
var closedPlans = [][]int{
	{1, 0, 0, 0, 0, 0, 0, 0, 0},
	{1, 0, 1, 0, 1, 0, 1, 0, 1},
	{1, 0, 2, 0, 6, 0, 22, 0, 86},
	{1, 0, 3, 0, 15, 0, 89, 14, 595},
	{1, 0, 4, 0, 28, 0, 234, 28, 2226},
	{1, 0, 5, 0, 45, 0, 487, 42, 5995},
	{1, 0, 6, 0, 66, 0, 878, 56, 13252},
}

func TestClosedPlans(t *testing.T) {
	for _, n := range someNumbers() {
		for _, k := range append(someNumbers(), -3) {
			want := 0
			valid := isIn(n, modelMaxSearch) && 0 <= k && k <= modelMaxClosed
			if valid {
				want = closedPlans[n-1][k]
			}
			got, ok := impl.CountClosedPlans(n, k)
			expect(t, "CountClosedPlans", args(n, k), got, ok, want, valid)
		}
	}
}

// TestClosedPlansAreCounted makes all turns of all plans.
func TestClosedPlansAreCounted(t *testing.T) {
	for n := 1; n <= modelMaxSearch; n++ {
		for k := 0; k <= modelMaxClosed; k++ {
			got, ok := impl.CountClosedPlans(n, k)
			expect(t, "CountClosedPlans", args(n, k), got, ok, modelClosed(modelSorted(n), k), true)
		}
	}
}

// TestClosedPlansLeaveEachStack looks at all stacks, not at the sorted one alone.
func TestClosedPlansLeaveEachStack(t *testing.T) {
	for n := 1; n <= 4; n++ {
		counts := make([]int, 6)
		for _, plan := range allPlans(n, 5) {
			if !slices.Contains(plan, 1) && modelSame(n, plan, nil) {
				counts[len(plan)]++
			}
		}
		for k, want := range counts {
			got, ok := impl.CountClosedPlans(n, k)
			expect(t, "CountClosedPlans", args(n, k), got, ok, want, true)
		}
	}
}
