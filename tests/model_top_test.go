package tests

import "slices"

// The model of chapter 5, said again without the program, as model_test.go does for chapter 1.

const (
	modelMaxSteps   = 100
	modelMaxLongest = 8
)

// modelTopGame returns the stacks before and behind each turn of the game of the top.
func modelTopGame(s []int) [][]int {
	game := [][]int{s}
	for s[0] != 1 {
		s = modelTurn(s, s[0])
		game = append(game, s)
	}
	return game
}

func modelTops(game [][]int) []int {
	var tops []int
	for _, s := range game {
		tops = append(tops, s[0])
	}
	return tops
}

// modelBefores returns, for all stacks of n pancakes, those of which one turn makes them.
func modelBefores(n int) map[modelKey][][]int {
	befores := map[modelKey][][]int{}
	for _, s := range allStacks(n) {
		if game := modelTopGame(s); len(game) > 1 {
			befores[keyOf(game[1])] = append(befores[keyOf(game[1])], s)
		}
	}
	return befores
}

// modelTrees returns, for all stacks of n pancakes, the sizes of their trees and
// the greatest numbers of turns in these, from all games that come to them.
func modelTrees(n int) (map[modelKey]int, map[modelKey]int) {
	sizes, depths := map[modelKey]int{}, map[modelKey]int{}
	for _, s := range allStacks(n) {
		for turns, to := range modelTopGame(s) {
			sizes[keyOf(to)]++
			depths[keyOf(to)] = max(depths[keyOf(to)], turns)
		}
	}
	return sizes, depths
}

// modelLongest returns the stacks of n pancakes with the most steps, and how many have 0, 1, .. steps.
func modelLongest(n int) ([][]int, []int) {
	var longest [][]int
	var counts []int
	for _, s := range allStacks(n) {
		steps := len(modelTopGame(s)) - 1
		for steps >= len(counts) {
			counts = append(counts, 0)
			longest = nil
		}
		counts[steps]++
		if steps == len(counts)-1 {
			longest = append(longest, s)
		}
	}
	return longest, counts
}

func hasBeen(seen [][]int, s []int) bool {
	return slices.ContainsFunc(seen, func(x []int) bool { return slices.Equal(x, s) })
}

func modelBottomGame(s []int) int {
	seen := [][]int{s}
	for s[len(s)-1] != 1 {
		s = modelTurn(s, s[len(s)-1])
		if hasBeen(seen, s) {
			break
		}
		seen = append(seen, s)
	}
	return len(seen) - 1
}

// modelCountGame puts the pancakes to the bottom one by one.
func modelCountGame(s []int, k int) []int {
	var order []int
	for len(s) > 0 {
		for range k {
			s = append(slices.Clone(s[1:]), s[0])
		}
		order = append(order, s[0])
		s = s[1:]
	}
	return order
}

// modelCardStep takes k pancakes from the top and puts the last of them, which
// is on top of them when they are turned round, right below the others.
func modelCardStep(s []int, k int) []int {
	step := slices.Clone(s[k:])
	for place := k; place > 0; place-- {
		step = append(step, s[place-1])
	}
	return step
}

func modelCardGame(s []int, k int) (int, int) {
	var seen [][]int
	for !hasBeen(seen, s) {
		seen = append(seen, s)
		s = modelCardStep(s, k)
	}
	first := slices.IndexFunc(seen, func(x []int) bool { return slices.Equal(x, s) })
	return first, len(seen) - first
}
