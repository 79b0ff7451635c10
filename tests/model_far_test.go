package tests

import "slices"

// The model of chapter 3, said again without the program, as model_test.go does
// for chapter 1. It looks through all stacks from one on, or through all plans.

const (
	modelMaxSearch = 7
	modelMaxClosed = 8
)

type modelKey [modelMaxStack]int

func keyOf(s []int) modelKey {
	var key modelKey
	copy(key[:], s)
	return key
}

func modelIsSearched(s []int) bool {
	return modelIsStack(s) && len(s) <= modelMaxSearch
}

// modelDistances returns, for all stacks of n pancakes by their sizes, the least
// numbers of turns that sort them: from the sorted stack on, as turns are undone.
func modelDistances(n int) map[modelKey]int {
	return modelDistancesFrom(modelSorted(n))
}

// modelDistancesFrom returns the same for the turns that lead to another stack.
func modelDistancesFrom(s []int) map[modelKey]int {
	return modelDistancesBy(modelTurn, s)
}

// A modelStep returns what a turn makes of a stack.
type modelStep func(s []int, k int) []int

func modelDistancesBy(step modelStep, s []int) map[modelKey]int {
	return modelDistancesAlong(s, func(s []int) [][]int {
		var turned [][]int
		for k := 1; k <= len(s); k++ {
			turned = append(turned, step(s, k))
		}
		return turned
	})
}

// modelDistancesAlong returns the least numbers of steps from a stack, of which
// next returns what the steps from one make of it.
func modelDistancesAlong(s []int, next func(s []int) [][]int) map[modelKey]int {
	layer := [][]int{s}
	distances := map[modelKey]int{keyOf(s): 0}
	for steps := 1; len(layer) > 0; steps++ {
		var further [][]int
		for _, s := range layer {
			for _, other := range next(s) {
				if _, seen := distances[keyOf(other)]; !seen {
					distances[keyOf(other)] = steps
					further = append(further, other)
				}
			}
		}
		layer = further
	}
	return distances
}

// modelCloser returns the turns that lead nearer to the stack from which the distances are.
func modelCloser(s []int, distances map[modelKey]int) []int {
	return modelCloserBy(modelTurn, s, distances)
}

func modelCloserBy(step modelStep, s []int, distances map[modelKey]int) []int {
	var turns []int
	for k := 1; k <= len(s); k++ {
		if distances[keyOf(step(s, k))] < distances[keyOf(s)] {
			turns = append(turns, k)
		}
	}
	return turns
}

func modelFirstPlan(s []int, distances map[modelKey]int) []int {
	return modelFirstPlanBy(modelTurn, s, distances)
}

func modelFirstPlanBy(step modelStep, s []int, distances map[modelKey]int) []int {
	var plan []int
	for distances[keyOf(s)] > 0 {
		k := modelCloserBy(step, s, distances)[0]
		plan = append(plan, k)
		s = step(s, k)
	}
	return plan
}

func modelCountPlans(s []int, distances map[modelKey]int) int {
	if distances[keyOf(s)] == 0 {
		return 1
	}
	count := 0
	for _, k := range modelCloser(s, distances) {
		count += modelCountPlans(modelTurn(s, k), distances)
	}
	return count
}

// modelMiddle is given the distances from both stacks, of which the second one is t.
func modelMiddle(fromS map[modelKey]int, fromT map[modelKey]int, t []int) int {
	count := 0
	for key, distance := range fromS {
		if distance+fromT[key] == fromS[keyOf(t)] {
			count++
		}
	}
	return count
}

// modelLeastPlans returns, of plans with the shortest first, those that make t of s with the fewest turns.
func modelLeastPlans(s []int, t []int, plans [][]int) [][]int {
	var least [][]int
	for _, plan := range plans {
		if least != nil && len(plan) > len(least[0]) {
			break
		}
		if slices.Equal(modelPlay(s, plan), t) {
			least = append(least, plan)
		}
	}
	return least
}

// modelClosed counts how often the turns of plans, all of them more than 1, lead back to the sorted stack.
func modelClosed(s []int, turns int) int {
	if turns == 0 {
		if slices.IsSorted(s) {
			return 1
		}
		return 0
	}
	count := 0
	for k := 2; k <= len(s); k++ {
		count += modelClosed(modelTurn(s, k), turns-1)
	}
	return count
}
