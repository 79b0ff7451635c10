package tests

import (
	"slices"

	"loop.example/g01221/impl"
)

// The model of chapter 6, said again without the program, as model_test.go does
// for chapter 1: of the program it has the type of segments alone.

const modelMaxFar = 6

// segmentsOf returns the segments with these places, From and To of each of them in turn.
func segmentsOf(places ...int) []impl.Segment {
	var segments []impl.Segment
	for i := 1; i < len(places); i += 2 {
		segments = append(segments, impl.Segment{From: places[i-1], To: places[i]})
	}
	return segments
}

func modelIsSegment(n int, t impl.Segment) bool {
	return isIn(n, modelMaxStack) && isIn(t.From, n) && isIn(t.To, n) && t.From < t.To
}

// modelSegments returns all segments for n in their order.
func modelSegments(n int) []impl.Segment {
	var segments []impl.Segment
	for from := 1; from <= n; from++ {
		for to := 1; to <= n; to++ {
			if from < to {
				segments = append(segments, segmentsOf(from, to)...)
			}
		}
	}
	return segments
}

// climbingSegments returns the segments for n again and again, none for one pancake.
func climbingSegments(n int, length int) []impl.Segment {
	return againAndAgain(modelSegments(n), length)
}

// againAndAgain returns so many moves, all of these one after the other, none if there are none.
func againAndAgain[T any](all []T, length int) []T {
	var moves []T
	for len(all) > 0 && len(moves) < length {
		moves = append(moves, all...)
	}
	return moves[:min(length, len(moves))]
}

// modelTurnSegment puts the pancakes in front of a segment, those in it from
// the last one on, and those behind it below each other.
func modelTurnSegment(s []int, t impl.Segment) []int {
	turned := slices.Clone(s[:t.From-1])
	for place := t.To; place >= t.From; place-- {
		turned = append(turned, s[place-1])
	}
	return append(turned, s[t.To:]...)
}

func modelPlaySegments(s []int, turns []impl.Segment) []int {
	for _, t := range turns {
		s = modelTurnSegment(s, t)
	}
	return s
}

func modelArePlayed(s []int, turns []impl.Segment) bool {
	return modelIsStack(s) && len(turns) <= modelMaxPlan &&
		!slices.ContainsFunc(turns, func(t impl.Segment) bool { return !modelIsSegment(len(s), t) })
}

func modelBreaks(s []int) []int {
	var breaks []int
	whole := slices.Concat([]int{0}, s, []int{len(s) + 1})
	for i := range len(s) + 1 {
		if modelFar(whole[i], whole[i+1]) {
			breaks = append(breaks, i)
		}
	}
	return breaks
}

// modelBest looks first how few breakpoints can be left, and then for the segments that leave so many.
func modelBest(s []int) ([]impl.Segment, int) {
	all := modelSegments(len(s))
	left := func(t impl.Segment) int { return len(modelBreaks(modelTurnSegment(s, t))) }
	if all == nil {
		return nil, len(modelBreaks(s))
	}
	fewest := left(all[0])
	for _, t := range all {
		fewest = min(fewest, left(t))
	}
	return slices.DeleteFunc(all, func(t impl.Segment) bool { return left(t) > fewest }), fewest
}

func modelSelection(s []int) []impl.Segment {
	var segments []impl.Segment
	for size := range len(s) {
		if place := modelPlace(s, size+1); place != size+1 {
			t := segmentsOf(size+1, place)
			segments = append(segments, t...)
			s = modelPlaySegments(s, t)
		}
	}
	return segments
}

func modelGreedySegments(s []int) ([]impl.Segment, bool) {
	var segments []impl.Segment
	for !slices.IsSorted(s) {
		next, left := modelBest(s)
		if left >= len(modelBreaks(s)) {
			next = modelSelection(s)
		}
		segments = append(segments, next[0])
		s = modelTurnSegment(s, next[0])
		if len(segments) > modelMaxPlan {
			return nil, false
		}
	}
	return segments, true
}

// modelSegmentDistances returns, for all stacks of n pancakes, the least
// numbers of segments that sort them: from the sorted stack on, as they are undone.
func modelSegmentDistances(n int) map[modelKey]int {
	return modelDistancesAlong(modelSorted(n), func(s []int) [][]int {
		var turned [][]int
		for _, t := range modelSegments(n) {
			turned = append(turned, modelTurnSegment(s, t))
		}
		return turned
	})
}

// modelLeastLists returns, in order, all lists of segments that sort a stack and are as short as its distance.
func modelLeastLists(s []int, distances map[modelKey]int) [][]impl.Segment {
	if distances[keyOf(s)] == 0 {
		return [][]impl.Segment{nil}
	}
	var lists [][]impl.Segment
	for _, t := range modelSegments(len(s)) {
		turned := modelTurnSegment(s, t)
		if distances[keyOf(turned)] >= distances[keyOf(s)] {
			continue
		}
		for _, rest := range modelLeastLists(turned, distances) {
			lists = append(lists, append([]impl.Segment{t}, rest...))
		}
	}
	return lists
}

// allListsOf returns all lists of at most most of these, the shortest first, and
// those of one length in their order.
func allListsOf[T any](all []T, most int) [][]T {
	var lists [][]T
	for _, plan := range allPlans(len(all), most) {
		var list []T
		for _, k := range plan {
			list = append(list, all[k-1])
		}
		lists = append(lists, list)
	}
	return lists
}

func modelSegmentsOfPlan(plan []int) []impl.Segment {
	var segments []impl.Segment
	for _, k := range plan {
		if k > 1 {
			segments = append(segments, segmentsOf(1, k)...)
		}
	}
	return segments
}

// modelIsFalling holds the sizes in a segment against those that fall from the first of them on.
func modelIsFalling(s []int, t impl.Segment) bool {
	for place := t.From; place <= t.To; place++ {
		if s[place-1] != s[t.From-1]-(place-t.From) {
			return false
		}
	}
	return true
}
