package tests

import "slices"

// The model of chapter 2, said again without the program, as model_test.go does for chapter 1.

const modelMaxByGreedy = 7

func modelFar(a int, b int) bool {
	return max(a, b)-min(a, b) > 1
}

func modelGaps(s []int) []int {
	var gaps []int
	whole := append(slices.Clone(s), len(s)+1)
	for i := range s {
		if modelFar(whole[i], whole[i+1]) {
			gaps = append(gaps, i+1)
		}
	}
	return gaps
}

func modelStrips(s []int) [][]int {
	var strips [][]int
	for i, size := range s {
		if i == 0 || modelFar(s[i-1], size) {
			strips = append(strips, nil)
		}
		last := len(strips) - 1
		strips[last] = append(strips[last], size)
	}
	return strips
}

func modelGoodPairs(s []int) int {
	return len(s) - len(modelStrips(s))
}

func modelGapTurns(s []int) []int {
	var turns []int
	for k := 1; k <= len(s); k++ {
		if len(modelGaps(modelTurn(s, k))) < len(modelGaps(s)) {
			turns = append(turns, k)
		}
	}
	return turns
}

func modelLowerBound(s []int) int {
	count := len(modelGaps(s))
	if count > 0 && modelGapTurns(s) == nil {
		return count + 1
	}
	return count
}

func modelGreedy(s []int) []int {
	var plan []int
	for size := len(s); size > 1; size-- {
		place := modelPlace(s, size)
		if place == size {
			continue
		}
		if place > 1 {
			plan = append(plan, place)
			s = modelTurn(s, place)
		}
		plan = append(plan, size)
		s = modelTurn(s, size)
	}
	return plan
}

func modelGapPlan(s []int) ([]int, bool) {
	var plan []int
	for !slices.IsSorted(s) {
		step := modelGapTurns(s)
		if len(step) > 0 {
			step = step[:1]
		} else if step = modelGreedy(s); len(step) > 2 {
			step = step[:2]
		}
		plan = append(plan, step...)
		if len(plan) > modelMaxPlan {
			return nil, false
		}
		s = modelPlay(s, step)
	}
	return plan, true
}

func modelGapsAlong(s []int, plan []int) []int {
	counts := []int{len(modelGaps(s))}
	for _, k := range plan {
		s = modelTurn(s, k)
		counts = append(counts, len(modelGaps(s)))
	}
	return counts
}

func modelMostByGreedy(n int) ([]int, int) {
	var most []int
	for _, s := range allStacks(n) {
		if most == nil || len(modelGreedy(s)) > len(modelGreedy(most)) {
			most = s
		}
	}
	return most, len(modelGreedy(most))
}

// modelTwoTurns looks through the plans in their order, the shortest first.
func modelTwoTurns(s []int) ([]int, bool) {
	for _, plan := range allPlans(len(s), 2) {
		if !slices.Contains(plan, 1) && slices.IsSorted(modelPlay(s, plan)) {
			return plan, true
		}
	}
	return nil, false
}
