package tests

import (
	"slices"
	"testing"

	"loop.example/g01221/impl"
)

// stacksForSegments returns all stacks of six pancakes and fewer, and some of each greater number.
func stacksForSegments() [][]int {
	return slices.Concat(someStacks(), allStacks(6), longGames(), [][]int{
		{2, 4, 1, 6, 3, 7, 5}, {7, 5, 8, 3, 6, 2, 4, 1}, {2, 5, 1, 8, 4, 7, 9, 6, 3}, {5, 9, 3, 7, 1, 6, 2, 8, 4}, {3, 4, 1, 2, 7, 8, 9, 5, 6},
	})
}

func stacksForSegmentsAndOthers() [][]int {
	return append(stacksForSegments(), noStacks()...)
}

// notFar returns lists that are no stacks, and stacks of more than MaxFar pancakes.
func notFar() [][]int {
	lists := noStacks()
	for n := modelMaxFar + 1; n <= modelMaxStack; n++ {
		s := modelSorted(n)
		lists = append(lists, s, modelTurn(s, n), modelTurn(s, 2), modelPlay(s, climbing(n, 5)))
	}
	return lists
}

// someSegments returns segments for n, and others that are none: their places are
// out of range, the same or in the wrong order.
func someSegments(n int) []impl.Segment {
	all := modelSegments(n)
	for place := -1; place <= n+2; place++ {
		all = append(all, segmentsOf(place, place, place+1, place, place, 0, 0, place, n+1, place, place, n+1, place, minInt, place, maxInt, minInt, place, maxInt, place)...)
	}
	return append(all, segmentsOf(n, 1, minInt, maxInt, maxInt, minInt, 1<<32+1, 1<<32+2, 1, 1<<32+2, 257, 258, 9, 10, 1, 10, 10, 11)...)
}

func TestLimitOfFar(t *testing.T) {
	if impl.MaxFar != modelMaxFar {
		t.Error("limit", impl.MaxFar)
	}
}

func TestExampleOfSegments(t *testing.T) {
	s := []int{3, 1, 2}
	points, ok := impl.BreakPoints(s)
	expectList(t, "BreakPoints", args(s), points, ok, []int{0, 1, 3}, true)
	bound, ok := impl.SegmentBound(s)
	expect(t, "SegmentBound", args(s), bound, ok, 2, true)
	distance, ok := impl.SegmentDistance(s)
	expect(t, "SegmentDistance", args(s), distance, ok, 2, true)
	turns := segmentsOf(1, 3, 1, 2)
	played, ok := impl.PlaySegments(s, turns)
	expectList(t, "PlaySegments", args(s, turns), played, ok, []int{1, 2, 3}, true)

	s = []int{1, 4, 3, 2, 5}
	points, ok = impl.BreakPoints(s)
	expectList(t, "BreakPoints", args(s), points, ok, []int{1, 4}, true)
	strip := impl.Segment{From: 2, To: 4}
	falling, ok := impl.IsFallingStrip(s, strip)
	expect(t, "IsFallingStrip", args(s, strip), falling, ok, true, true)
	turned, ok := impl.TurnSegment(s, strip)
	expectList(t, "TurnSegment", args(s, strip), turned, ok, modelSorted(5), true)
}

func TestSegmentsAreTold(t *testing.T) {
	for _, n := range someNumbers() {
		for _, from := range someNumbers() {
			for _, to := range someNumbers() {
				segment := impl.Segment{From: from, To: to}
				if got := impl.IsSegment(n, segment); got != modelIsSegment(n, segment) {
					t.Errorf("IsSegment of %d and %v is %v", n, segment, got)
				}
			}
		}
	}
}

func TestHowManySegments(t *testing.T) {
	for n, want := range []int{0, 0, 1, 3, 6, 10, 15, 21, 28, 36, 0, 0} {
		count := 0
		for from := -1; from <= 12; from++ {
			for to := -1; to <= 12; to++ {
				if impl.IsSegment(n, impl.Segment{From: from, To: to}) {
					count++
				}
			}
		}
		if count != want {
			t.Errorf("there are %d segments for %d, not %d", count, n, want)
		}
	}
}

func TestTurnedSegments(t *testing.T) {
	for _, s := range stacksForSegmentsAndOthers() {
		for _, segment := range someSegments(min(len(s), 10)) {
			var want []int
			valid := modelIsStack(s) && modelIsSegment(len(s), segment)
			if valid {
				want = modelTurnSegment(s, segment)
			}
			turned, ok := impl.TurnSegment(s, segment)
			expectList(t, "TurnSegment", args(s, segment), turned, ok, want, valid)
			if valid {
				back, ok := impl.TurnSegment(turned, segment)
				expectList(t, "TurnSegment", args(turned, segment), back, ok, s, true)
			}
		}
	}
}

func TestNamedTurnedSegments(t *testing.T) {
	for _, c := range []struct {
		s, want []int
		segment impl.Segment
	}{
		{[]int{2, 1}, []int{1, 2}, impl.Segment{From: 1, To: 2}},
		{[]int{3, 1, 2}, []int{1, 3, 2}, impl.Segment{From: 1, To: 2}},
		{[]int{3, 1, 2}, []int{2, 1, 3}, impl.Segment{From: 1, To: 3}},
		{[]int{3, 1, 2}, []int{3, 2, 1}, impl.Segment{From: 2, To: 3}},
		{modelSorted(9), []int{9, 8, 7, 6, 5, 4, 3, 2, 1}, impl.Segment{From: 1, To: 9}},
		{modelSorted(9), []int{1, 2, 3, 4, 5, 6, 7, 9, 8}, impl.Segment{From: 8, To: 9}},
		{modelSorted(9), []int{1, 2, 7, 6, 5, 4, 3, 8, 9}, impl.Segment{From: 3, To: 7}},
	} {
		turned, ok := impl.TurnSegment(c.s, c.segment)
		expectList(t, "TurnSegment", args(c.s, c.segment), turned, ok, c.want, true)
	}
}

// TestFirstSegmentsAreTurns has the segments that begin at the top.
func TestFirstSegmentsAreTurns(t *testing.T) {
	for _, s := range stacksForSegments() {
		for k := 2; k <= len(s); k++ {
			segment := impl.Segment{From: 1, To: k}
			want, _ := impl.TurnStack(s, k)
			turned, ok := impl.TurnSegment(s, segment)
			expectList(t, "TurnSegment", args(s, segment), turned, ok, want, true)
		}
	}
}

// someSegmentLists returns lists of segments for n and lists that have others than segments in them.
func someSegmentLists(n int) [][]impl.Segment {
	bads := segmentsOf(0, 1, 1, 1, n, n, 2, 1, n, 1, 1, n+1, n+1, n+2, -1, n, 0, n, 0, 0, minInt, maxInt, maxInt, minInt, 1, maxInt, 1, 10, 9, 10)
	return someListsOf(modelSegments(min(n, 3)), modelSegments(n), impl.Segment{From: 1, To: n}, bads)
}

// someListsOf returns lists of moves, of none up to MaxPlan: short ones of few
// of them, long ones of all and of one again and again, and lists that are too
// long or have bad moves in them, in front, between and last.
func someListsOf[T any](few []T, all []T, one T, bads []T) [][]T {
	lists := allListsOf(few, 3)
	for _, length := range []int{modelMaxPlan - 1, modelMaxPlan, modelMaxPlan + 1, 17, 1000} {
		climbs := againAndAgain(all, length)
		falls := slices.Clone(climbs)
		slices.Reverse(falls)
		lists = append(lists, climbs, falls, slices.Repeat([]T{one}, length))
	}
	for _, bad := range bads {
		lists = append(lists, []T{bad}, []T{one, bad}, []T{bad, one}, []T{one, bad, one})
		lists = append(lists, append(againAndAgain(all, modelMaxPlan-1), bad), append([]T{bad}, againAndAgain(all, modelMaxPlan)...))
	}
	return lists
}

func TestPlayedSegments(t *testing.T) {
	for _, s := range append(someStacks(), noStacks()...) {
		for _, turns := range someSegmentLists(min(len(s), 10)) {
			var want []int
			valid := modelArePlayed(s, turns)
			if valid {
				want = modelPlaySegments(s, turns)
			}
			played, ok := impl.PlaySegments(s, turns)
			expectList(t, "PlaySegments", args(s, turns), played, ok, want, valid)
		}
	}
}

func TestPlayedSegmentsAreTurnedOneByOne(t *testing.T) {
	for _, s := range stacksForSegments() {
		one := s
		turns := climbingSegments(len(s), modelMaxPlan)
		for i, segment := range turns {
			one, _ = impl.TurnSegment(one, segment)
			played, ok := impl.PlaySegments(s, turns[:i+1])
			expectList(t, "PlaySegments", args(s, turns[:i+1]), played, ok, one, true)
		}
		slices.Reverse(turns)
		back, ok := impl.PlaySegments(one, turns)
		expectList(t, "PlaySegments", args(one, turns), back, ok, s, true)
	}
}

// TestOnePancakeHasNoSegment has what each function makes of the stack of one pancake.
func TestOnePancakeHasNoSegment(t *testing.T) {
	s := []int{1}
	for _, segment := range someSegments(1) {
		if impl.IsSegment(1, segment) {
			t.Error("a segment for one pancake", segment)
		}
		turned, ok := impl.TurnSegment(s, segment)
		expectList(t, "TurnSegment", args(s, segment), turned, ok, nil, false)
		played, ok := impl.PlaySegments(s, []impl.Segment{segment})
		expectList(t, "PlaySegments", args(s, segment), played, ok, nil, false)
		falling, ok := impl.IsFallingStrip(s, segment)
		expect(t, "IsFallingStrip", args(s, segment), falling, ok, false, false)
	}
	played, ok := impl.PlaySegments(s, nil)
	expectList(t, "PlaySegments", args(s, nil), played, ok, s, true)
	best, left, ok := impl.BestTurns(s)
	expectList(t, "BestTurns", args(s), best, ok, nil, true)
	expect(t, "BestTurns", args(s), left, ok, 0, true)
	segments, ok := impl.SegmentsOfPlan(1, repeated(1, modelMaxPlan))
	expectList(t, "SegmentsOfPlan", args(1), segments, ok, nil, true)
	counts, ok := impl.CountByDistance(1)
	expectList(t, "CountByDistance", args(1), counts, ok, []int{1}, true)
	farthest, ok := impl.FarthestStacks(1)
	expectLists(t, "FarthestStacks", args(1), farthest, ok, [][]int{{1}}, true)
	checkNothingToSort(t, s)
}

func TestSortedStacksNeedNoSegment(t *testing.T) {
	for n := 1; n <= modelMaxStack; n++ {
		checkNothingToSort(t, modelSorted(n))
	}
}

func checkNothingToSort(t *testing.T, s []int) {
	t.Helper()
	points, ok := impl.BreakPoints(s)
	expectList(t, "BreakPoints", args(s), points, ok, nil, true)
	bound, ok := impl.SegmentBound(s)
	expect(t, "SegmentBound", args(s), bound, ok, 0, true)
	greedy, ok := impl.GreedySegments(s)
	expectList(t, "GreedySegments", args(s), greedy, ok, nil, true)
	selection, ok := impl.SelectionSegments(s)
	expectList(t, "SelectionSegments", args(s), selection, ok, nil, true)
	far := len(s) <= modelMaxFar
	distance, ok := impl.SegmentDistance(s)
	expect(t, "SegmentDistance", args(s), distance, ok, 0, far)
	least, ok := impl.LeastSegments(s)
	expectList(t, "LeastSegments", args(s), least, ok, nil, far)
	count, ok := impl.CountLeastSegments(s)
	expect(t, "CountLeastSegments", args(s), count, ok, 1, far)
}

func TestNamedBreakPoints(t *testing.T) {
	for _, c := range []struct {
		s, points []int
		bound     int
	}{
		{[]int{2, 1}, []int{0, 2}, 1},
		{[]int{1, 3, 2}, []int{1, 3}, 1},
		{[]int{2, 1, 3}, []int{0, 2}, 1},
		{[]int{2, 3, 1}, []int{0, 2, 3}, 2},
		{[]int{3, 2, 1}, []int{0, 3}, 1},
		{[]int{2, 4, 1, 3}, []int{0, 1, 2, 3, 4}, 3},
		{[]int{3, 4, 1, 2}, []int{0, 2, 4}, 2},
		{[]int{1, 3, 2, 5, 4, 6}, []int{1, 3, 5}, 2},
		{[]int{9, 8, 7, 6, 5, 4, 3, 2, 1}, []int{0, 9}, 1},
		{[]int{9, 1, 2, 3, 4, 5, 6, 7, 8}, []int{0, 1, 9}, 2},
		{[]int{1, 9, 8, 7, 6, 5, 4, 3, 2}, []int{1, 9}, 1},
		{[]int{5, 9, 3, 7, 1, 6, 2, 8, 4}, []int{0, 1, 2, 3, 4, 5, 6, 7, 8, 9}, 5},
	} {
		points, ok := impl.BreakPoints(c.s)
		expectList(t, "BreakPoints", args(c.s), points, ok, c.points, true)
		bound, ok := impl.SegmentBound(c.s)
		expect(t, "SegmentBound", args(c.s), bound, ok, c.bound, true)
	}
}

func TestBreakPoints(t *testing.T) {
	for _, s := range append(stacksForSegmentsAndOthers(), allStacks(7)...) {
		var want []int
		valid := modelIsStack(s)
		if valid {
			want = modelBreaks(s)
		}
		points, ok := impl.BreakPoints(s)
		expectList(t, "BreakPoints", args(s), points, ok, want, valid)
		bound, ok := impl.SegmentBound(s)
		expect(t, "SegmentBound", args(s), bound, ok, (len(want)+1)/2, valid)
		if valid && slices.IsSorted(s) != (len(points) == 0) {
			t.Error("BreakPoints of", s, "are", points)
		}
	}
}

func TestSegmentsTakeAwayTwoBreakpointsAtMost(t *testing.T) {
	most := 0
	for _, s := range stacksForSegments() {
		before, _ := impl.BreakPoints(s)
		bound, _ := impl.SegmentBound(s)
		for _, segment := range modelSegments(len(s)) {
			turned, _ := impl.TurnSegment(s, segment)
			behind, ok := impl.BreakPoints(turned)
			taken := len(before) - len(behind)
			if !ok || taken > 2 || taken < -2 {
				t.Error("turning", segment, "of", s, "takes away", taken, "breakpoints")
			}
			if rest, _ := impl.SegmentBound(turned); rest < bound-1 {
				t.Error("turning", segment, "of", s, "makes the bound", rest, "of", bound)
			}
			most = max(most, taken)
		}
	}
	if most != 2 {
		t.Error("segments take away", most, "breakpoints at most")
	}
}

func TestBestTurns(t *testing.T) {
	for _, s := range stacksForSegmentsAndOthers() {
		var want []impl.Segment
		fewest := 0
		valid := modelIsStack(s)
		if valid {
			want, fewest = modelBest(s)
		}
		best, left, ok := impl.BestTurns(s)
		expectList(t, "BestTurns", args(s), best, ok, want, valid)
		expect(t, "BestTurns", args(s), left, ok, fewest, valid)
	}
}

func TestNamedBestTurns(t *testing.T) {
	for _, c := range []struct {
		s    []int
		best []impl.Segment
		left int
	}{
		{[]int{1}, nil, 0},
		{[]int{1, 2}, segmentsOf(1, 2), 2},
		{[]int{2, 1}, segmentsOf(1, 2), 0},
		{[]int{1, 2, 3}, segmentsOf(1, 2, 1, 3, 2, 3), 2},
		{[]int{3, 1, 2}, segmentsOf(1, 2, 1, 3, 2, 3), 2},
		{[]int{1, 4, 3, 2, 5}, segmentsOf(2, 4), 0},
		{[]int{3, 4, 1, 2}, segmentsOf(1, 3, 2, 4), 2},
		{[]int{4, 5, 6, 1, 2, 3}, segmentsOf(1, 3, 1, 4, 1, 5, 1, 6, 2, 6, 3, 6, 4, 6), 3},
		{[]int{9, 8, 7, 6, 5, 4, 3, 2, 1}, segmentsOf(1, 9), 0},
	} {
		best, left, ok := impl.BestTurns(c.s)
		expectList(t, "BestTurns", args(c.s), best, ok, c.best, true)
		expect(t, "BestTurns", args(c.s), left, ok, c.left, true)
	}
}

func TestGreedySegments(t *testing.T) {
	for _, s := range stacksForSegmentsAndOthers() {
		var want []impl.Segment
		valid := modelIsStack(s)
		if valid {
			want, valid = modelGreedySegments(s)
		}
		greedy, ok := impl.GreedySegments(s)
		expectList(t, "GreedySegments", args(s), greedy, ok, want, valid)
		if !valid {
			continue
		}
		sorted, ok := impl.PlaySegments(s, greedy)
		expectList(t, "PlaySegments", args(s, greedy), sorted, ok, modelSorted(len(s)), true)
		if bound, _ := impl.SegmentBound(s); len(greedy) < bound {
			t.Error("GreedySegments of", s, "are fewer than the bound", bound, greedy)
		}
	}
}

// TestNamedGreedySegments has the stacks 4, 5, 6, 1, 2, 3 and 5, 6, 3, 4, 1, 2: no
// segment takes away a breakpoint of them, so that 1 is brought to the top first.
func TestNamedGreedySegments(t *testing.T) {
	for _, c := range []struct {
		s    []int
		want []impl.Segment
	}{
		{[]int{2, 1}, segmentsOf(1, 2)},
		{[]int{3, 1, 2}, segmentsOf(1, 2, 2, 3)},
		{[]int{1, 4, 3, 2, 5}, segmentsOf(2, 4)},
		{[]int{3, 4, 1, 2}, segmentsOf(1, 3, 2, 4)},
		{[]int{4, 5, 6, 1, 2, 3}, segmentsOf(1, 4, 2, 6, 2, 3)},
		{[]int{5, 6, 3, 4, 1, 2}, segmentsOf(1, 5, 4, 6, 2, 4)},
		{[]int{2, 1, 4, 3, 6, 5, 8, 7}, segmentsOf(1, 2, 3, 4, 5, 6, 7, 8)},
		{[]int{9, 8, 7, 6, 5, 4, 3, 2, 1}, segmentsOf(1, 9)},
	} {
		greedy, ok := impl.GreedySegments(c.s)
		expectList(t, "GreedySegments", args(c.s), greedy, ok, c.want, true)
	}
}

func TestSelectionSegments(t *testing.T) {
	for _, s := range stacksForSegmentsAndOthers() {
		var want []impl.Segment
		valid := modelIsStack(s)
		if valid {
			want = modelSelection(s)
		}
		selection, ok := impl.SelectionSegments(s)
		expectList(t, "SelectionSegments", args(s), selection, ok, want, valid)
		if !valid {
			continue
		}
		sorted, ok := impl.PlaySegments(s, selection)
		expectList(t, "PlaySegments", args(s, selection), sorted, ok, modelSorted(len(s)), true)
		if len(selection) > len(s)-1 {
			t.Error("SelectionSegments of", s, "are", selection)
		}
	}
}

func TestNamedSelectionSegments(t *testing.T) {
	for _, c := range []struct {
		s    []int
		want []impl.Segment
	}{
		{[]int{2, 1}, segmentsOf(1, 2)},
		{[]int{3, 1, 2}, segmentsOf(1, 2, 2, 3)},
		{[]int{2, 3, 1}, segmentsOf(1, 3, 2, 3)},
		{[]int{1, 3, 2, 4}, segmentsOf(2, 3)},
		{[]int{2, 3, 4, 5, 6, 7, 8, 9, 1}, segmentsOf(1, 9, 2, 9)},
		{[]int{2, 4, 1, 6, 3, 8, 5, 9, 7}, segmentsOf(1, 3, 2, 3, 3, 5, 4, 5, 5, 7, 6, 7, 7, 9, 8, 9)},
		{[]int{9, 8, 7, 6, 5, 4, 3, 2, 1}, segmentsOf(1, 9)},
	} {
		selection, ok := impl.SelectionSegments(c.s)
		expectList(t, "SelectionSegments", args(c.s), selection, ok, c.want, true)
	}
}

func TestSegmentDistances(t *testing.T) {
	for n := 1; n <= modelMaxFar; n++ {
		distances := modelSegmentDistances(n)
		for _, s := range allStacks(n) {
			want := distances[keyOf(s)]
			distance, ok := impl.SegmentDistance(s)
			expect(t, "SegmentDistance", args(s), distance, ok, want, true)
			lists := modelLeastLists(s, distances)
			least, ok := impl.LeastSegments(s)
			expectList(t, "LeastSegments", args(s), least, ok, lists[0], true)
			count, ok := impl.CountLeastSegments(s)
			expect(t, "CountLeastSegments", args(s), count, ok, len(lists), true)
			sorted, ok := impl.PlaySegments(s, least)
			expectList(t, "PlaySegments", args(s, least), sorted, ok, modelSorted(n), true)
		}
	}
}

// TestDistancesAreThoseOfShortestLists looks through all lists of segments.
func TestDistancesAreThoseOfShortestLists(t *testing.T) {
	for n := 1; n <= 5; n++ {
		lists := allListsOf(modelSegments(n), n-1)
		for _, s := range allStacks(n) {
			var want [][]impl.Segment
			for _, list := range lists {
				if want != nil && len(list) > len(want[0]) {
					break
				}
				if slices.IsSorted(modelPlaySegments(s, list)) {
					want = append(want, list)
				}
			}
			distance, ok := impl.SegmentDistance(s)
			expect(t, "SegmentDistance", args(s), distance, ok, len(want[0]), true)
			least, ok := impl.LeastSegments(s)
			expectList(t, "LeastSegments", args(s), least, ok, want[0], true)
			count, ok := impl.CountLeastSegments(s)
			expect(t, "CountLeastSegments", args(s), count, ok, len(want), true)
		}
	}
}

func TestBoundsOfSegmentDistances(t *testing.T) {
	for n := 1; n <= modelMaxFar; n++ {
		for _, s := range allStacks(n) {
			distance, _ := impl.SegmentDistance(s)
			bound, _ := impl.SegmentBound(s)
			greedy, _ := impl.GreedySegments(s)
			selection, _ := impl.SelectionSegments(s)
			if distance < bound || distance > len(greedy) || distance > len(selection) || distance > n-1 {
				t.Error("SegmentDistance of", s, "is", distance, "with the bound", bound, "and the lists", greedy, selection)
			}
		}
	}
}

func TestNamedLeastSegments(t *testing.T) {
	for _, c := range []struct {
		s     []int
		least []impl.Segment
		count int
	}{
		{[]int{2, 1}, segmentsOf(1, 2), 1},
		{[]int{3, 2, 1}, segmentsOf(1, 3), 1},
		{[]int{3, 1, 2}, segmentsOf(1, 2, 2, 3), 3},
		{[]int{2, 3, 1}, segmentsOf(1, 2, 1, 3), 3},
		{[]int{2, 1, 4, 3}, segmentsOf(1, 2, 3, 4), 2},
		{[]int{1, 4, 3, 2, 5}, segmentsOf(2, 4), 1},
		{[]int{6, 5, 4, 3, 2, 1}, segmentsOf(1, 6), 1},
		{[]int{1, 2, 3, 4, 6, 5}, segmentsOf(5, 6), 1},
		{[]int{2, 1, 4, 3, 6, 5}, segmentsOf(1, 2, 3, 4, 5, 6), 6},
	} {
		distance, ok := impl.SegmentDistance(c.s)
		expect(t, "SegmentDistance", args(c.s), distance, ok, len(c.least), true)
		least, ok := impl.LeastSegments(c.s)
		expectList(t, "LeastSegments", args(c.s), least, ok, c.least, true)
		count, ok := impl.CountLeastSegments(c.s)
		expect(t, "CountLeastSegments", args(c.s), count, ok, c.count, true)
	}
}

func TestStacksThatAreNotFar(t *testing.T) {
	for _, s := range notFar() {
		distance, ok := impl.SegmentDistance(s)
		expect(t, "SegmentDistance", args(s), distance, ok, 0, false)
		least, ok := impl.LeastSegments(s)
		expectList(t, "LeastSegments", args(s), least, ok, nil, false)
		count, ok := impl.CountLeastSegments(s)
		expect(t, "CountLeastSegments", args(s), count, ok, 0, false)
	}
}

// countsByDistance are, as they are known, how many stacks have the distances 0, 1, .., n - 1.
var countsByDistance = [][]int{{1}, {1, 1}, {1, 3, 2}, {1, 6, 15, 2}, {1, 10, 52, 55, 2}, {1, 15, 129, 389, 184, 2}}

// farthestStacks are, as they are known, two stacks that are the inverses of each other for each n greater than 2.
var farthestStacks = [][][]int{
	{{1}}, {{2, 1}}, {{2, 3, 1}, {3, 1, 2}}, {{2, 4, 1, 3}, {3, 1, 4, 2}}, {{2, 4, 1, 5, 3}, {3, 1, 5, 2, 4}}, {{2, 4, 1, 6, 3, 5}, {3, 1, 5, 2, 6, 4}},
}

func TestCountsByDistance(t *testing.T) {
	for _, n := range someNumbers() {
		var counts []int
		var farthest [][]int
		valid := isIn(n, modelMaxFar)
		if valid {
			counts, farthest = countsByDistance[n-1], farthestStacks[n-1]
		}
		got, ok := impl.CountByDistance(n)
		expectList(t, "CountByDistance", args(n), got, ok, counts, valid)
		stacks, ok := impl.FarthestStacks(n)
		expectLists(t, "FarthestStacks", args(n), stacks, ok, farthest, valid)
	}
}

func TestDistancesAreCounted(t *testing.T) {
	for n := 1; n <= modelMaxFar; n++ {
		counts, _ := impl.CountByDistance(n)
		var farthest [][]int
		for _, s := range allStacks(n) {
			distance, ok := impl.SegmentDistance(s)
			if !ok || distance >= len(counts) {
				t.Fatal("SegmentDistance of", s, distance, ok, counts)
			}
			counts[distance]--
			if distance == len(counts)-1 {
				farthest = append(farthest, s)
			}
		}
		if len(counts) != n || slices.ContainsFunc(counts, func(left int) bool { return left != 0 }) {
			t.Errorf("CountByDistance of %d differs by %v from the distances", n, counts)
		}
		stacks, ok := impl.FarthestStacks(n)
		expectLists(t, "FarthestStacks", args(n), stacks, ok, farthest, true)
	}
}

func TestSegmentsOfPlans(t *testing.T) {
	for _, n := range someNumbers() {
		for _, plan := range somePlans(min(max(n, 1), 11)) {
			var want []impl.Segment
			valid := modelIsPlan(n, plan)
			if valid {
				want = modelSegmentsOfPlan(plan)
			}
			segments, ok := impl.SegmentsOfPlan(n, plan)
			expectList(t, "SegmentsOfPlan", args(n, plan), segments, ok, want, valid)
			if !valid {
				continue
			}
			s := modelTurn(modelSorted(n), n)
			turned, _ := impl.PlayPlan(s, plan)
			played, ok := impl.PlaySegments(s, segments)
			expectList(t, "PlaySegments", args(s, segments), played, ok, turned, true)
		}
	}
}

func TestNamedSegmentsOfPlans(t *testing.T) {
	for _, c := range []struct {
		n    int
		plan []int
		want []impl.Segment
	}{
		{1, nil, nil},
		{1, []int{1, 1}, nil},
		{3, []int{3, 2}, segmentsOf(1, 3, 1, 2)},
		{3, []int{1, 3, 1, 1, 2, 2, 1}, segmentsOf(1, 3, 1, 2, 1, 2)},
		{9, []int{9, 1, 2}, segmentsOf(1, 9, 1, 2)},
		{9, repeated(9, modelMaxPlan), slices.Repeat(segmentsOf(1, 9), modelMaxPlan)},
	} {
		segments, ok := impl.SegmentsOfPlan(c.n, c.plan)
		expectList(t, "SegmentsOfPlan", args(c.n, c.plan), segments, ok, c.want, true)
	}
}

func TestFallingStrips(t *testing.T) {
	for _, s := range stacksForSegmentsAndOthers() {
		for _, segment := range someSegments(min(len(s), 10)) {
			valid := modelIsStack(s) && modelIsSegment(len(s), segment)
			want := valid && modelIsFalling(s, segment)
			falling, ok := impl.IsFallingStrip(s, segment)
			expect(t, "IsFallingStrip", args(s, segment), falling, ok, want, valid)
		}
	}
}

func TestNamedFallingStrips(t *testing.T) {
	for _, c := range []struct {
		s       []int
		segment impl.Segment
		want    bool
	}{
		{[]int{1, 2}, impl.Segment{From: 1, To: 2}, false},
		{[]int{2, 1}, impl.Segment{From: 1, To: 2}, true},
		{[]int{3, 1, 2}, impl.Segment{From: 1, To: 2}, false},
		{[]int{1, 4, 3, 2, 5}, impl.Segment{From: 2, To: 3}, true},
		{[]int{1, 4, 3, 2, 5}, impl.Segment{From: 3, To: 4}, true},
		{[]int{1, 4, 3, 2, 5}, impl.Segment{From: 1, To: 4}, false},
		{[]int{1, 4, 3, 2, 5}, impl.Segment{From: 2, To: 5}, false},
		{[]int{9, 8, 7, 6, 5, 4, 3, 2, 1}, impl.Segment{From: 1, To: 9}, true},
		{[]int{9, 8, 7, 6, 5, 4, 3, 1, 2}, impl.Segment{From: 1, To: 9}, false},
	} {
		falling, ok := impl.IsFallingStrip(c.s, c.segment)
		expect(t, "IsFallingStrip", args(c.s, c.segment), falling, ok, c.want, true)
	}
}

// TestTurnedFallingStripsRise turns all falling strips.
func TestTurnedFallingStripsRise(t *testing.T) {
	for _, s := range stacksForSegments() {
		for _, segment := range modelSegments(len(s)) {
			if falling, _ := impl.IsFallingStrip(s, segment); !falling {
				continue
			}
			turned, _ := impl.TurnSegment(s, segment)
			if !slices.IsSorted(turned[segment.From-1 : segment.To]) {
				t.Error("turning", segment, "of", s, "makes", turned)
			}
		}
	}
}
