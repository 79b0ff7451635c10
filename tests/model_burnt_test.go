package tests

import "slices"

// The model of chapter 4, said again without the program, as model_test.go does for chapter 1.

const modelMaxBurnt = 5

func modelSize(x int) int {
	if x < 0 {
		return -x
	}
	return x
}

func modelSizes(s []int) []int {
	var sizes []int
	for _, x := range s {
		sizes = append(sizes, modelSize(x))
	}
	return sizes
}

func modelIsBurnt(s []int) bool {
	return !slices.Contains(s, minInt) && modelIsStack(modelSizes(s))
}

func modelTurnBurnt(s []int, k int) []int {
	turned := modelTurn(s, k)
	for i := range k {
		turned[i] = -turned[i]
	}
	return turned
}

func modelPlayBurnt(s []int, plan []int) []int {
	for _, k := range plan {
		s = modelTurnBurnt(s, k)
	}
	return s
}

func modelBurntGaps(s []int) []int {
	var gaps []int
	whole := append(slices.Clone(s), len(s)+1)
	for i := range s {
		if whole[i+1] != whole[i]+1 {
			gaps = append(gaps, i+1)
		}
	}
	return gaps
}

func modelBurntGreedy(s []int) []int {
	var plan []int
	turn := func(k int) {
		plan = append(plan, k)
		s = modelTurnBurnt(s, k)
	}
	for size := len(s); size > 0; size-- {
		if s[size-1] == size {
			continue
		}
		if place := modelPlace(modelSizes(s), size); place != 1 {
			turn(place)
		}
		if s[0] != -size {
			turn(1)
		}
		turn(size)
	}
	return plan
}

// modelBurntDistances returns the least numbers of turns that sort burnt stacks,
// for all of n pancakes.
func modelBurntDistances(n int) map[modelKey]int {
	return modelDistancesBy(modelTurnBurnt, modelSorted(n))
}

func modelFirstBurnt(s []int, distances map[modelKey]int) []int {
	return modelFirstPlanBy(modelTurnBurnt, s, distances)
}

func modelDouble(s []int) []int {
	var double []int
	for _, x := range s {
		size := modelSize(x)
		pair := []int{2*size - 1, 2 * size}
		if x < 0 {
			pair = []int{2 * size, 2*size - 1}
		}
		double = append(double, pair...)
	}
	return double
}

func modelBurntText(s []int) string {
	text := ""
	for _, x := range s {
		if x < 0 {
			text += "-"
		}
		text += string("0123456789"[modelSize(x)])
	}
	return text
}

// allBurnts returns all burnt stacks of n pancakes in lexicographic order.
func allBurnts(n int) [][]int {
	var burnts [][]int
	for _, s := range allStacks(n) {
		for sides := range 1 << n {
			burnts = append(burnts, withSides(s, sides))
		}
	}
	slices.SortFunc(burnts, slices.Compare[[]int])
	return burnts
}

// withSides turns the pancakes over that have a one among the binary digits of sides.
func withSides(s []int, sides int) []int {
	var burnt []int
	for i, size := range s {
		if sides>>i&1 == 1 {
			size = -size
		}
		burnt = append(burnt, size)
	}
	return burnt
}

// someBurnts returns all burnt stacks of up to three pancakes and some of each
// greater number, MaxBurnt and MaxStack among them: the plain sides up, the
// burnt sides up, and both.
func someBurnts() [][]int {
	var burnts [][]int
	for n := 1; n <= 3; n++ {
		burnts = append(burnts, allBurnts(n)...)
	}
	for n := 4; n <= modelMaxStack; n++ {
		s := modelSorted(n)
		back := modelTurn(s, n)
		burnts = append(burnts, s, back, withSides(s, -1), withSides(back, -1), withSides(s, 1), withSides(s, 1<<(n-1)))
		for k := 1; k <= n; k++ {
			s = modelTurnBurnt(modelTurnBurnt(s, n), k)
			burnts = append(burnts, s)
		}
	}
	return burnts
}

// noBurnts returns lists of which none is a burnt stack.
func noBurnts() [][]int {
	return [][]int{
		nil, {}, {0}, {2}, {-2}, {9}, {-9}, {1, -1}, {-1, 1}, {-1, -1}, {2, -2}, {-2, -2}, {1, 3}, {-3, 1}, {-1, 3}, {0, -1}, {1, 0}, {0, 0},
		{1, -2, 2}, {-3, -3, -1}, {2, 3, -4}, {0, -1, -2}, {-1, -2, -4}, {-1, -2, 0}, {1, 2, -1},
		{257}, {-257, 2}, {1 << 32, 1}, {-(1 << 32) - 1}, {1<<32 + 1}, {minInt}, {maxInt}, {-maxInt}, {minInt + 2}, {1, minInt}, {minInt, -1}, {-1, maxInt, minInt},
		{1, 2, 3, 4, 5, 6, 7, 8, -8}, repeated(-9, 9), {-1, 2, 3, 4, 5, 6, 7, 8, -10}, {0, -1, -2, -3, -4, -5, -6, -7, -8}, {1, 2, 3, 4, 5, 6, 7, 8, minInt},
		modelSorted(10), withSides(modelSorted(10), -1), withSides(modelSorted(10), 512), append(withSides(modelSorted(9), -1), 1), append(modelSorted(9), 0), append(modelSorted(9), -9), modelSorted(1000),
	}
}
