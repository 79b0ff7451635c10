package tests

import (
	"slices"
	"strings"
	"testing"

	"loop.example/g01221/impl"
)

// burntsAndOthers returns all burnt stacks of four pancakes and fewer, some of
// each greater number, and lists that are no burnt stacks.
func burntsAndOthers() [][]int {
	return slices.Concat(someBurnts(), allBurnts(4), noBurnts())
}

func TestLimitOfBurntSearch(t *testing.T) {
	if impl.MaxBurnt != modelMaxBurnt {
		t.Error("limit", impl.MaxBurnt)
	}
}

func TestExampleOfBurnt(t *testing.T) {
	one, ok := impl.ParseBurnt("-1")
	expectList(t, "ParseBurnt", args("-1"), one, ok, []int{-1}, true)
	plan, ok := impl.LeastBurnt(one)
	expectList(t, "LeastBurnt", args(one), plan, ok, []int{1}, true)
	s, ok := impl.ParseBurnt("1-2")
	expectList(t, "ParseBurnt", args("1-2"), s, ok, []int{1, -2}, true)
	gaps, ok := impl.BurntGaps(s)
	expectList(t, "BurntGaps", args(s), gaps, ok, []int{1, 2}, true)
	double, ok := impl.DoubleStack(s)
	expectList(t, "DoubleStack", args(s), double, ok, []int{1, 2, 4, 3}, true)
	plan, ok = impl.LeastBurnt(s)
	expectList(t, "LeastBurnt", args(s), plan, ok, []int{2, 1, 2}, true)
	for i, want := range []string{"2-1", "-2-1", "12"} {
		s, ok = impl.TurnBurnt(s, plan[i])
		text, _ := impl.BurntText(s)
		expect(t, "TurnBurnt", args("1-2", plan[:i+1]), text, ok, want, true)
	}
}

func TestNamedBurntStacks(t *testing.T) {
	for _, c := range []struct {
		text                string
		gaps, greedy, least []int
	}{
		{"1", nil, nil, nil},
		{"-1", []int{1}, []int{1}, []int{1}},
		{"12", nil, nil, nil},
		{"-12", []int{1}, []int{1}, []int{1}},
		{"-1-2", []int{1, 2}, []int{2, 1, 2, 1}, []int{1, 2, 1, 2}},
		{"21", []int{1, 2}, []int{1, 2, 1}, []int{1, 2, 1}},
		{"-21", []int{1, 2}, []int{2, 1}, []int{2, 1}},
		{"2-1", []int{1, 2}, []int{1, 2}, []int{1, 2}},
		{"-2-1", []int{2}, []int{2}, []int{2}},
		{"312", []int{1, 3}, []int{1, 3, 2}, []int{1, 3, 2}},
		{"-3-1-2", []int{1, 2, 3}, []int{3, 1, 2, 1}, []int{3, 1, 2, 1}},
		{"132", []int{1, 2, 3}, []int{2, 3, 2, 1}, []int{1, 2, 3, 2}},
		{"-1-2-3", []int{1, 2, 3}, []int{3, 1, 3, 2, 1, 2, 1}, []int{2, 3, 2, 3, 2, 3}},
		{"1234-5", []int{4, 5}, []int{5, 1, 5}, []int{5, 1, 5}},
		{"-1-2-3-4-5", []int{1, 2, 3, 4, 5}, []int{5, 1, 5, 4, 1, 4, 3, 1, 3, 2, 1, 2, 1}, []int{4, 5, 4, 5, 4, 5, 4, 5, 4, 5}},
		{"-5-4-3-2-1", []int{5}, []int{5}, []int{5}},
		{"54321", []int{1, 2, 3, 4, 5}, []int{1, 5, 4, 1, 4, 3, 1, 3, 2, 1, 2, 1}, []int{4, 5, 4, 5, 4, 5, 4, 5, 4}},
	} {
		s, _ := impl.ParseBurnt(c.text)
		gaps, ok := impl.BurntGaps(s)
		expectList(t, "BurntGaps", args(c.text), gaps, ok, c.gaps, true)
		greedy, ok := impl.BurntGreedy(s)
		expectList(t, "BurntGreedy", args(c.text), greedy, ok, c.greedy, true)
		least, ok := impl.LeastBurnt(s)
		expectList(t, "LeastBurnt", args(c.text), least, ok, c.least, true)
		distance, ok := impl.BurntDistance(s)
		expect(t, "BurntDistance", args(c.text), distance, ok, len(c.least), true)
	}
}

func TestNamedBurntStacksOfNine(t *testing.T) {
	for _, c := range []struct {
		text         string
		gaps, greedy []int
	}{
		{"123456789", nil, nil},
		{"-9-8-7-6-5-4-3-2-1", []int{9}, []int{9}},
		{"12345678-9", []int{8, 9}, []int{9, 1, 9}},
		{"-123456789", []int{1}, []int{1}},
		{"987654321", climbing(9, 9), []int{1, 9, 8, 1, 8, 7, 1, 7, 6, 1, 6, 5, 1, 5, 4, 1, 4, 3, 1, 3, 2, 1, 2, 1}},
		{"-1-2-3-4-5-6-7-8-9", climbing(9, 9), []int{9, 1, 9, 8, 1, 8, 7, 1, 7, 6, 1, 6, 5, 1, 5, 4, 1, 4, 3, 1, 3, 2, 1, 2, 1}},
	} {
		s, _ := impl.ParseBurnt(c.text)
		gaps, ok := impl.BurntGaps(s)
		expectList(t, "BurntGaps", args(c.text), gaps, ok, c.gaps, true)
		greedy, ok := impl.BurntGreedy(s)
		expectList(t, "BurntGreedy", args(c.text), greedy, ok, c.greedy, true)
		distance, ok := impl.BurntDistance(s)
		expect(t, "BurntDistance", args(c.text), distance, ok, 0, false)
	}
}

func TestBurntStacksAreTold(t *testing.T) {
	for _, s := range slices.Concat(someBurnts(), allBurnts(4), allBurnts(5)) {
		if !impl.IsBurnt(s) {
			t.Error("no burnt stack", s)
		}
	}
	for _, s := range noBurnts() {
		if impl.IsBurnt(s) {
			t.Error("a burnt stack", s)
		}
	}
}

// TestListsOfSmallSignedNumbers looks at all lists of three numbers and fewer, most of which are no burnt stacks.
func TestListsOfSmallSignedNumbers(t *testing.T) {
	lists := [][]int{{}}
	for range 3 {
		for _, s := range lists {
			for x := -4; x <= 4; x++ {
				lists = append(lists, append(slices.Clone(s), x))
			}
		}
		for _, s := range lists {
			if impl.IsBurnt(s) != modelIsBurnt(s) {
				t.Fatal("IsBurnt of", s)
			}
		}
		lists = longest(lists)
	}
}

func TestBurntTurns(t *testing.T) {
	for _, s := range append(someBurnts(), noBurnts()...) {
		for _, k := range someNumbers() {
			var want []int
			valid := modelIsBurnt(s) && isIn(k, len(s))
			if valid {
				want = modelTurnBurnt(s, k)
			}
			turned, ok := impl.TurnBurnt(s, k)
			expectList(t, "TurnBurnt", args(s, k), turned, ok, want, valid)
			if valid {
				again, ok := impl.TurnBurnt(turned, k)
				expectList(t, "TurnBurnt", args(turned, k), again, ok, s, true)
			}
		}
	}
}

func TestBurntPlansPlayed(t *testing.T) {
	for _, s := range append(someBurnts(), noBurnts()...) {
		plans := somePlans(len(s)%modelMaxStack + 1)
		plans = append(plans, somePlans(min(max(len(s), 1), modelMaxStack))...)
		for _, plan := range plans {
			var want []int
			valid := modelIsBurnt(s) && modelIsPlan(len(s), plan)
			if valid {
				want = modelPlayBurnt(s, plan)
			}
			got, ok := impl.PlayBurnt(s, plan)
			expectList(t, "PlayBurnt", args(s, plan), got, ok, want, valid)
		}
		same, ok := impl.PlayBurnt(s, nil)
		expectList(t, "PlayBurnt", args(s, nil), same, ok, s, modelIsBurnt(s))
	}
}

func TestBurntPlansAreUndone(t *testing.T) {
	for _, s := range someBurnts() {
		for _, plan := range somePlans(len(s)) {
			back, ok := impl.BackPlan(len(s), plan)
			if !ok {
				continue
			}
			there, _ := impl.PlayBurnt(s, plan)
			home, ok := impl.PlayBurnt(there, back)
			expectList(t, "PlayBurnt", args(there, back), home, ok, s, true)
		}
	}
}

func TestSortedBurntStacks(t *testing.T) {
	for _, s := range burntsAndOthers() {
		valid := modelIsBurnt(s)
		want := slices.Equal(s, modelSorted(len(s)))
		got, ok := impl.IsBurntSorted(s)
		expect(t, "IsBurntSorted", args(s), got, ok, want, valid)
	}
	// This one rises but has burnt sides up.
	got, ok := impl.IsBurntSorted([]int{-3, -2, -1})
	expect(t, "IsBurntSorted", args("-3-2-1"), got, ok, false, true)
}

func TestBurntGaps(t *testing.T) {
	for _, s := range burntsAndOthers() {
		valid := modelIsBurnt(s)
		gaps, ok := impl.BurntGaps(s)
		expectList(t, "BurntGaps", args(s), gaps, ok, modelBurntGaps(s), valid)
		sorted, _ := impl.IsBurntSorted(s)
		if valid && sorted != (len(gaps) == 0) {
			t.Error("only sorted burnt stacks have no gap, but", gaps, "are in", s)
		}
	}
}

func TestBurntTurnsTakeAwayOneGapAtMost(t *testing.T) {
	for _, s := range slices.Concat(someBurnts(), allBurnts(4)) {
		before, _ := impl.BurntGaps(s)
		for k := 1; k <= len(s); k++ {
			turned, _ := impl.TurnBurnt(s, k)
			behind, ok := impl.BurntGaps(turned)
			if !ok || len(behind) < len(before)-1 {
				t.Error("gaps of", s, before, "and behind the turn", k, behind, ok)
			}
		}
	}
}

func TestGreedyBurntPlans(t *testing.T) {
	for _, s := range burntsAndOthers() {
		var want []int
		valid := modelIsBurnt(s)
		if valid {
			want = modelBurntGreedy(s)
		}
		plan, ok := impl.BurntGreedy(s)
		expectList(t, "BurntGreedy", args(s), plan, ok, want, valid)
		if !valid {
			continue
		}
		sorted, ok := impl.PlayBurnt(s, plan)
		expectList(t, "PlayBurnt", args(s, plan), sorted, ok, modelSorted(len(s)), true)
		if len(plan) > 3*len(s) {
			t.Error("BurntGreedy of", s, "is", plan)
		}
	}
}

func TestBurntDistances(t *testing.T) {
	for n := 1; n <= modelMaxBurnt; n++ {
		distances := modelBurntDistances(n)
		for _, s := range allBurnts(n) {
			want := distances[keyOf(s)]
			distance, ok := impl.BurntDistance(s)
			expect(t, "BurntDistance", args(s), distance, ok, want, true)
			plan, ok := impl.LeastBurnt(s)
			expectList(t, "LeastBurnt", args(s), plan, ok, modelFirstBurnt(s, distances), true)
			sorted, ok := impl.PlayBurnt(s, plan)
			expectList(t, "PlayBurnt", args(s, plan), sorted, ok, modelSorted(n), true)
			gaps, _ := impl.BurntGaps(s)
			greedy, _ := impl.BurntGreedy(s)
			if len(gaps) > distance || distance > len(greedy) {
				t.Error(s, "has the distance", distance, "but", gaps, "and", greedy)
			}
		}
	}
}

// TestLeastBurntAmongAll looks through all plans, the shortest first, in their order.
func TestLeastBurntAmongAll(t *testing.T) {
	for n := 1; n <= 3; n++ {
		plans := allPlans(n, 2*n)
		for _, s := range allBurnts(n) {
			sorts := func(plan []int) bool { return slices.Equal(modelPlayBurnt(s, plan), modelSorted(n)) }
			want := plans[slices.IndexFunc(plans, sorts)]
			plan, ok := impl.LeastBurnt(s)
			expectList(t, "LeastBurnt", args(s), plan, ok, want, true)
			distance, ok := impl.BurntDistance(s)
			expect(t, "BurntDistance", args(s), distance, ok, len(want), true)
		}
	}
}

// TestBurntStacksThatAreNotSearched has burnt stacks of six pancakes and more, for which all else is told.
func TestBurntStacksThatAreNotSearched(t *testing.T) {
	larger := slices.DeleteFunc(someBurnts(), func(s []int) bool { return len(s) <= modelMaxBurnt })
	for _, s := range append(larger, noBurnts()...) {
		distance, ok := impl.BurntDistance(s)
		expect(t, "BurntDistance", args(s), distance, ok, 0, false)
		plan, ok := impl.LeastBurnt(s)
		expectList(t, "LeastBurnt", args(s), plan, ok, nil, false)
	}
	for _, s := range larger {
		greedy, ok := impl.BurntGreedy(s)
		expectList(t, "BurntGreedy", args(s), greedy, ok, modelBurntGreedy(s), true)
	}
}

// countsOfBurnt are, as they are known, how many burnt stacks have the distances 0, 1, ..
var countsOfBurnt = [][]int{
	{1, 1}, {1, 2, 2, 2, 1}, {1, 3, 6, 12, 18, 6, 2}, {1, 4, 12, 36, 90, 124, 96, 18, 3},
	{1, 5, 20, 80, 280, 680, 1214, 1127, 389, 40, 4},
}

// worstBurnts are the burnt stacks with the greatest distances.
var worstBurnts = [][][]int{
	{{-1}}, {{-1, -2}}, {{-1, -2, -3}, {1, -2, -3}}, {{-1, -2, -3, -4}, {1, -2, -3, -4}, {2, 1, -3, -4}},
	{{-1, -2, -3, -4, -5}, {1, -2, -3, -4, -5}, {2, 1, -3, -4, -5}, {3, 2, 1, -4, -5}},
}

func TestBurntLayers(t *testing.T) {
	for _, n := range someNumbers() {
		var counts []int
		var worst [][]int
		valid := isIn(n, modelMaxBurnt)
		if valid {
			counts, worst = countsOfBurnt[n-1], worstBurnts[n-1]
		}
		got, ok := impl.CountBurntBy(n)
		expectList(t, "CountBurntBy", args(n), got, ok, counts, valid)
		stacks, ok := impl.WorstBurnt(n)
		expectLists(t, "WorstBurnt", args(n), stacks, ok, worst, valid)
	}
}

func TestBurntLayersHaveAllStacks(t *testing.T) {
	for n := 1; n <= modelMaxBurnt; n++ {
		counts, _ := impl.CountBurntBy(n)
		greatest := len(counts) - 1
		var worst [][]int
		for _, s := range allBurnts(n) {
			distance, ok := impl.BurntDistance(s)
			if !ok || distance > greatest {
				t.Fatal("BurntDistance of", s, distance, ok, counts)
			}
			counts[distance]--
			if distance == greatest {
				worst = append(worst, s)
			}
		}
		if slices.ContainsFunc(counts, func(left int) bool { return left != 0 }) {
			t.Errorf("CountBurntBy of %d differs by %v from the distances", n, counts)
		}
		stacks, ok := impl.WorstBurnt(n)
		expectLists(t, "WorstBurnt", args(n), stacks, ok, worst, true)
	}
}

func TestAllBurnt(t *testing.T) {
	for _, n := range someNumbers() {
		var want []int
		valid := isIn(n, modelMaxStack)
		if valid {
			want = withSides(modelSorted(n), -1)
		}
		s, ok := impl.AllBurnt(n)
		expectList(t, "AllBurnt", args(n), s, ok, want, valid)
		if impl.IsBurnt(s) != valid {
			t.Error("AllBurnt of", n, "is", s)
		}
	}
}

func TestSidesAreForgotten(t *testing.T) {
	for _, s := range burntsAndOthers() {
		valid := modelIsBurnt(s)
		sizes, ok := impl.ForgetSides(s)
		expectList(t, "ForgetSides", args(s), sizes, ok, modelSizes(s), valid)
		if impl.IsStack(sizes) != valid {
			t.Error("ForgetSides of", s, "is", sizes)
		}
	}
}

func TestDoubledStacks(t *testing.T) {
	for _, s := range burntsAndOthers() {
		var want []int
		valid := modelIsBurnt(s) && len(s) <= 4
		if valid {
			want = modelDouble(s)
		}
		double, ok := impl.DoubleStack(s)
		expectList(t, "DoubleStack", args(s), double, ok, want, valid)
		if !valid {
			continue
		}
		if !impl.IsStack(double) {
			t.Error("DoubleStack of", s, "is", double)
		}
		half, ok := impl.HalveStack(double)
		expectList(t, "HalveStack", args(double), half, ok, s, true)
	}
}

func TestBurntStacksTurnAsDoubledOnes(t *testing.T) {
	for n := 1; n <= 4; n++ {
		for _, s := range allBurnts(n) {
			double, _ := impl.DoubleStack(s)
			for k := 1; k <= n; k++ {
				turned, _ := impl.TurnBurnt(s, k)
				want, _ := impl.DoubleStack(turned)
				got, ok := impl.TurnStack(double, 2*k)
				expectList(t, "TurnStack", args(double, 2*k), got, ok, want, true)
			}
		}
	}
}

func TestBurntPlansPlayAsDoubledOnes(t *testing.T) {
	for _, s := range slices.Concat(allBurnts(1), allBurnts(2), allBurnts(3), [][]int{{-4, 2, -1, 3}}) {
		double, _ := impl.DoubleStack(s)
		for _, plan := range append(allPlans(len(s), 3), climbing(len(s), modelMaxPlan)) {
			var twice []int
			for _, k := range plan {
				twice = append(twice, 2*k)
			}
			played, _ := impl.PlayBurnt(s, plan)
			want, _ := impl.DoubleStack(played)
			got, ok := impl.PlayPlan(double, twice)
			expectList(t, "PlayPlan", args(double, twice), got, ok, want, true)
		}
	}
}

func TestHalvedStacks(t *testing.T) {
	for n := 1; n <= 8; n++ {
		halves := map[modelKey][]int{}
		if n%2 == 0 {
			for _, s := range allBurnts(n / 2) {
				halves[keyOf(modelDouble(s))] = s
			}
		}
		for _, s := range allStacks(n) {
			want, valid := halves[keyOf(s)]
			half, ok := impl.HalveStack(s)
			expectList(t, "HalveStack", args(s), half, ok, want, valid)
		}
	}
}

func TestStacksThatAreNotHalved(t *testing.T) {
	lists := append(noStacks(), noBurnts()...)
	lists = append(lists, modelSorted(9), []int{9, 1, 2, 3, 4, 5, 6, 7, 8})
	// These are pairs, but of no stack.
	lists = append(lists, []int{-1, -2}, []int{-2, -1}, []int{1, 2, 1, 2}, []int{3, 4}, []int{4, 3, 6, 5}, []int{1, 2, 6, 5}, []int{1, 2, -4, -3}, []int{1, -2}, []int{2, 3, 4, 1})
	lists = append(lists, modelSorted(10), modelDouble([]int{1, -2, 3, -4, 5}), []int{minInt, minInt + 1}, []int{maxInt - 1, maxInt}, []int{maxInt, minInt})
	for _, s := range lists {
		half, ok := impl.HalveStack(s)
		expectList(t, "HalveStack", args(s), half, ok, nil, false)
	}
}

func TestTextsOfBurntStacks(t *testing.T) {
	for _, s := range append(burntsAndOthers(), allBurnts(5)...) {
		want := ""
		valid := modelIsBurnt(s)
		if valid {
			want = modelBurntText(s)
		}
		text, ok := impl.BurntText(s)
		expect(t, "BurntText", args(s), text, ok, want, valid)
		if valid {
			back, ok := impl.ParseBurnt(text)
			expectList(t, "ParseBurnt", args(text), back, ok, s, true)
		}
	}
}

func TestTextsThatAreNoBurntStacks(t *testing.T) {
	for _, text := range []string{
		"", "-", "--", "0", "-0", "2", "-2", "11", "1-1", "-1-1", "--1", "-1-", "1-", "1--2", "-1--2", "1-2-", "12-", "+1", "+1-2", "1+2", "1 -2", "-1 ", " -1", "- 1", "-1\n", "1,-2", "1-3",
		"-a", "-1a", "1-x2", "-1\x00", "/", "-/", ".", "-.", "/2", "-:", "1-02", "-01", "10", "-10", "1-2-3-4-5-6-7-8-9-10", "1-2-3-4-5-6-7-8-9-", "--1-2-3-4-5-6-7-8-9", "1-2-3-4-5-6-7-8-8",
		"1-2-3-4-5-6-7-80", "-1-2-3-4-5-6-7-8-9-9", "1234567890", "−1", "\xad1", "-\xb1", "-１", strings.Repeat("-", 1000), strings.Repeat("-1", 1000), strings.Repeat("-", 1000) + "1", "1" + strings.Repeat("-", 1000),
	} {
		s, ok := impl.ParseBurnt(text)
		expectList(t, "ParseBurnt", args(text), s, ok, nil, false)
	}
}

// TestBurntTextsOfFewBytes looks at all texts of four bytes and fewer that have
// the bytes of BurntText, or those beside them, in them.
func TestBurntTextsOfFewBytes(t *testing.T) {
	readable := map[string][]int{}
	for _, s := range slices.Concat(allBurnts(1), allBurnts(2), allBurnts(3), allBurnts(4)) {
		readable[modelBurntText(s)] = s
	}
	texts := []string{""}
	for range 4 {
		var longer []string
		for _, text := range texts {
			for _, c := range []byte("-1234/0:,.\x00\xff") {
				longer = append(longer, text+string([]byte{c}))
			}
		}
		for _, text := range longer {
			want, valid := readable[text]
			s, ok := impl.ParseBurnt(text)
			expectList(t, "ParseBurnt", args(text), s, ok, want, valid)
		}
		texts = longer
	}
}

// TestBurntTextsOfTwoBytes looks at all of them: three have burnt stacks.
func TestBurntTextsOfTwoBytes(t *testing.T) {
	readable := map[string][]int{"-1": {-1}, "12": {1, 2}, "21": {2, 1}}
	for a := range 256 {
		for b := range 256 {
			text := string([]byte{byte(a), byte(b)})
			want, valid := readable[text]
			s, ok := impl.ParseBurnt(text)
			expectList(t, "ParseBurnt", args(text), s, ok, want, valid)
		}
	}
}
