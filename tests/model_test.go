package tests

import (
	"slices"
	"testing"
)

// The model says again, as plainly as the document does and without the
// program, what chapter 1 defines. Tests hold the program against it.

const (
	modelMaxStack = 9
	modelMaxPlan  = 40
)

func modelIsStack(s []int) bool {
	if len(s) == 0 || len(s) > modelMaxStack {
		return false
	}
	for size := 1; size <= len(s); size++ {
		if !slices.Contains(s, size) {
			return false
		}
	}
	return true
}

func modelIsPlan(n int, plan []int) bool {
	if n < 1 || n > modelMaxStack || len(plan) > modelMaxPlan {
		return false
	}
	return !slices.ContainsFunc(plan, func(k int) bool { return k < 1 || k > n })
}

func modelTurn(s []int, k int) []int {
	var turned []int
	for i := k - 1; i >= 0; i-- {
		turned = append(turned, s[i])
	}
	return append(turned, s[k:]...)
}

func modelPlay(s []int, plan []int) []int {
	for _, k := range plan {
		s = modelTurn(s, k)
	}
	return s
}

func modelPlace(s []int, size int) int {
	for i, x := range s {
		if x == size {
			return i + 1
		}
	}
	return 0
}

func modelSorted(n int) []int {
	var s []int
	for size := 1; size <= n; size++ {
		s = append(s, size)
	}
	return s
}

// modelShort takes away one turn 1 or one pair at a time, the last ones first.
func modelShort(plan []int) []int {
	for i := len(plan) - 1; i >= 0; i-- {
		if plan[i] == 1 {
			return modelShort(slices.Concat(plan[:i], plan[i+1:]))
		}
		if i > 0 && plan[i] == plan[i-1] {
			return modelShort(slices.Concat(plan[:i-1], plan[i+1:]))
		}
	}
	return plan
}

// allStacks returns all stacks of n pancakes in lexicographic order.
func allStacks(n int) [][]int {
	var stacks [][]int
	var grow func(s []int)
	grow = func(s []int) {
		if len(s) == n {
			stacks = append(stacks, slices.Clone(s))
			return
		}
		for size := 1; size <= n; size++ {
			if !slices.Contains(s, size) {
				grow(append(slices.Clone(s), size))
			}
		}
	}
	grow(nil)
	return stacks
}

// allPlans returns all plans for n of at most most turns, the shortest first.
func allPlans(n int, most int) [][]int {
	plans := [][]int{{}}
	for from, length := 0, 1; length <= most; length++ {
		to := len(plans)
		for _, plan := range plans[from:to] {
			for k := 1; k <= n; k++ {
				plans = append(plans, append(slices.Clone(plan), k))
			}
		}
		from = to
	}
	return plans
}

// someStacks returns all stacks of up to five pancakes and some of each
// greater number, MaxStack among them.
func someStacks() [][]int {
	var stacks [][]int
	for n := 1; n <= 5; n++ {
		stacks = append(stacks, allStacks(n)...)
	}
	for n := 6; n <= modelMaxStack; n++ {
		s := modelSorted(n)
		stacks = append(stacks, s, modelTurn(s, n))
		for k := 2; k <= n; k++ {
			s = modelTurn(modelTurn(s, n), k)
			stacks = append(stacks, s)
		}
	}
	return stacks
}

// noStacks returns lists of which none is a stack.
func noStacks() [][]int {
	return [][]int{
		nil, {}, {0}, {2}, {-1}, {1, 1}, {2, 2}, {1, 3}, {3, 1}, {0, 1}, {1, 0}, {-1, 2}, {1, -2},
		{1, 2, 2}, {2, 2, 1}, {3, 3, 1}, {2, 3, 4}, {0, 1, 2}, {1, 2, 4}, {1, 2, 0},
		{257, 2}, {1 << 32, 1}, {1<<32 + 1}, {1<<62 + 1, 1}, {minInt}, {maxInt}, {1, maxInt, minInt},
		{1, 2, 3, 4, 5, 6, 7, 8, 8}, {9, 9, 9, 9, 9, 9, 9, 9, 9}, {1, 2, 3, 4, 5, 6, 7, 8, 10}, {2, 3, 4, 5, 6, 7, 8, 9, 10}, {0, 1, 2, 3, 4, 5, 6, 7, 8},
		modelSorted(10), modelTurn(modelSorted(10), 10), append(modelSorted(9), 1), append(modelSorted(9), 0), modelSorted(11), modelSorted(1000),
	}
}

// somePlans returns lists for a number n of pancakes: plans for it of no turns
// up to MaxPlan, and lists that are none as they are too long or have numbers
// out of range, in front, between and last.
func somePlans(n int) [][]int {
	lists := allPlans(min(n, 3), 3)
	lists = append(lists, nil, repeated(1, modelMaxPlan), repeated(1, modelMaxPlan+1), repeated(n, modelMaxPlan), repeated(n, modelMaxPlan+1), repeated(n, modelMaxPlan-1), repeated(1, 1000))
	lists = append(lists, climbing(n, modelMaxPlan), climbing(n, modelMaxPlan+1), climbing(n, 17))
	for _, bad := range []int{0, -1, n + 1, modelMaxStack, modelMaxStack + 1, minInt, maxInt, 1<<32 + 1, 257} {
		lists = append(lists, []int{bad}, []int{1, bad}, []int{bad, n}, []int{1, bad, n}, append(climbing(n, modelMaxPlan-1), bad), append([]int{bad}, climbing(n, modelMaxPlan)...))
	}
	return lists
}

func repeated(k int, times int) []int {
	return slices.Repeat([]int{k}, times)
}

// climbing returns the turns 1, 2, .., n again and again.
func climbing(n int, length int) []int {
	var plan []int
	for i := range length {
		plan = append(plan, i%n+1)
	}
	return plan
}

const (
	maxInt = int(^uint(0) >> 1)
	minInt = -maxInt - 1
)

// someNumbers returns all numbers that may be sizes, places, turns or numbers
// of pancakes, and numbers that are none.
func someNumbers() []int {
	return []int{minInt, -9, -2, -1, 0, 1, 2, 3, 4, 5, 6, 7, 8, 9, 10, 11, 40, 41, 256, 257, 1 << 32, 1<<32 + 1, maxInt}
}

func isIn(k int, n int) bool {
	return 1 <= k && k <= n
}

// expectList checks a list and the success that comes with it: what fails has no list.
func expectList[T comparable](t *testing.T, call string, args []any, got []T, ok bool, want []T, wantOk bool) {
	t.Helper()
	if !wantOk {
		want = nil
	}
	if ok != wantOk || !slices.Equal(got, want) {
		t.Errorf("%s of %v is %v, %v, not %v, %v", call, args, got, ok, want, wantOk)
	}
}

// expect checks a result that can be compared, in the same way.
func expect[T comparable](t *testing.T, call string, args []any, got T, ok bool, want T, wantOk bool) {
	t.Helper()
	if !wantOk {
		var zero T
		want = zero
	}
	if ok != wantOk || got != want {
		t.Errorf("%s of %v is %v, %v, not %v, %v", call, args, got, ok, want, wantOk)
	}
}
