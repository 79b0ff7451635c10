package impl

import "slices"

const MaxStack = 9
const MaxPlan = 40

// tower is a stack, or a burnt one (chapter 4), as a value. The places below its
// last pancake hold 0, so that towers can be compared whatever their numbers of
// pancakes are.
type tower [MaxStack]int

func towerOf(s []int) tower {
	var w tower
	copy(w[:], s)
	return w
}

func sortedTower(n int) tower {
	var w tower
	for i := range n {
		w[i] = i + 1
	}
	return w
}

func (w tower) turned(k int) tower {
	slices.Reverse(w[:k])
	return w
}

func (w tower) played(turns ...int) tower {
	for _, k := range turns {
		w = w.turned(k)
	}
	return w
}

func (w tower) list(n int) []int {
	s := make([]int, n)
	copy(s, w[:])
	return s
}

// lists returns the stacks of n pancakes that towers are.
func lists(towers []tower, n int) [][]int {
	stacks := make([][]int, len(towers))
	for i, w := range towers {
		stacks[i] = w.list(n)
	}
	return stacks
}

// planOf leaves turns 1 out, as they change nothing.
func planOf(turns ...int) []int {
	plan := make([]int, 0, len(turns))
	for _, k := range turns {
		if k != 1 {
			plan = append(plan, k)
		}
	}
	return slices.Clip(plan)
}

func isCount(n int) bool {
	return 1 <= n && n <= MaxStack
}

func isPlace(s []int, place int) bool {
	return 1 <= place && place <= len(s)
}

func isPlanFor(s []int, plan []int) bool {
	return IsStack(s) && IsPlan(len(s), plan)
}

// IsStack reports whether s, whose numbers may be any, is a stack.
func IsStack(s []int) bool {
	if !isCount(len(s)) {
		return false
	}
	var found tower
	for _, size := range s {
		if !isPlace(s, size) {
			return false
		}
		found[size-1] = size
	}
	return found == sortedTower(len(s))
}

// IsSortedStack reports whether a stack is sorted.
func IsSortedStack(s []int) (bool, bool) {
	return SortsStack(s, nil)
}

// TurnStack returns the stack behind a turn.
func TurnStack(s []int, k int) ([]int, bool) {
	if !IsStack(s) || !isPlace(s, k) {
		return nil, false
	}
	return towerOf(s).turned(k).list(len(s)), true
}

// IsPlan reports whether a list, whose numbers may be any, is a plan for n, which may be any too.
func IsPlan(n int, plan []int) bool {
	if !isCount(n) || len(plan) > MaxPlan {
		return false
	}
	for _, k := range plan {
		if k < 1 || k > n {
			return false
		}
	}
	return true
}

// PlayPlan returns the stack behind a plan.
func PlayPlan(s []int, plan []int) ([]int, bool) {
	if !isPlanFor(s, plan) {
		return nil, false
	}
	return towerOf(s).played(plan...).list(len(s)), true
}

// StacksAlong returns the stacks before and behind each turn.
func StacksAlong(s []int, plan []int) ([][]int, bool) {
	if !isPlanFor(s, plan) {
		return nil, false
	}
	return lists(along(towerOf(s), tower.turned, plan...), len(s)), true
}

// SortsStack reports whether a plan sorts a stack.
func SortsStack(s []int, plan []int) (bool, bool) {
	if !isPlanFor(s, plan) {
		return false, false
	}
	return towerOf(s).played(plan...) == sortedTower(len(s)), true
}

// BackPlan returns the plan backwards: it undoes the plan.
func BackPlan(n int, plan []int) ([]int, bool) {
	if !IsPlan(n, plan) {
		return nil, false
	}
	back := make([]int, len(plan))
	copy(back, plan)
	slices.Reverse(back)
	return back, true
}

// ShortPlan returns the plan without turns 1, and without each two equal turns that come to stand next to each other, until there are none: it does the same.
func ShortPlan(n int, plan []int) ([]int, bool) {
	if !IsPlan(n, plan) {
		return nil, false
	}
	short := planOf(plan...)
pairs:
	for {
		for i := 1; i < len(short); i++ {
			if short[i-1] == short[i] {
				short = slices.Delete(short, i-1, i+1)
				continue pairs
			}
		}
		return slices.Clip(short), true
	}
}

// PlaceIn returns the place of a size.
func PlaceIn(s []int, size int) (int, bool) {
	if !IsStack(s) {
		return 0, false
	}
	place := slices.Index(s, size) + 1
	return place, place > 0
}

// TopTo returns the plan of at most one turn, more than 1, that brings the top pancake to a place.
func TopTo(s []int, place int) ([]int, bool) {
	if !IsStack(s) || !isPlace(s, place) {
		return nil, false
	}
	return planOf(place), true
}

// BringTo returns the plan of at most two turns, none of them 1, that brings a size to a place: first to the top, unless it is there, and then, unless the place is 1, to the place; none at all if it is there already.
func BringTo(s []int, size int, place int) ([]int, bool) {
	from, ok := PlaceIn(s, size)
	if !ok || !isPlace(s, place) {
		return nil, false
	}
	if from == place {
		return planOf(), true
	}
	return planOf(from, place), true
}

// ThenStack returns the stack that has at the place i the number of s at the place that t has at i, for stacks of as many pancakes.
func ThenStack(s []int, t []int) ([]int, bool) {
	if !IsStack(s) || !IsStack(t) || len(s) != len(t) {
		return nil, false
	}
	then := make([]int, len(s))
	for i, place := range t {
		then[i] = s[place-1]
	}
	return then, true
}

// InverseStack returns the stack that has i at the place that s has at i.
func InverseStack(s []int) ([]int, bool) {
	if !IsStack(s) {
		return nil, false
	}
	inverse := make([]int, len(s))
	for i, place := range s {
		inverse[place-1] = i + 1
	}
	return inverse, true
}

// BackStack returns the stack upside down: the turn n.
func BackStack(s []int) ([]int, bool) {
	return TurnStack(s, len(s))
}

// SwapSizes returns the stack with n + 1 less each size.
func SwapSizes(s []int) ([]int, bool) {
	if !IsStack(s) {
		return nil, false
	}
	swapped := make([]int, len(s))
	for i, size := range s {
		swapped[i] = len(s) + 1 - size
	}
	return swapped, true
}

// StackOfPlan returns what a plan makes of the sorted stack of n pancakes: PlayPlan of a stack is ThenStack of it and this.
func StackOfPlan(n int, plan []int) ([]int, bool) {
	if !IsPlan(n, plan) {
		return nil, false
	}
	return sortedTower(n).played(plan...).list(n), true
}

// AreSamePlans reports whether two plans for n make the same of each stack of n.
func AreSamePlans(n int, a []int, b []int) (bool, bool) {
	if !IsPlan(n, a) || !IsPlan(n, b) {
		return false, false
	}
	// Turns move places whatever the sizes are, so the sorted stack tells for all.
	w := sortedTower(n)
	return w.played(a...) == w.played(b...), true
}

// StackText returns the sizes as digits.
func StackText(s []int) (string, bool) {
	if !IsStack(s) {
		return "", false
	}
	text := make([]byte, len(s))
	for i, size := range s {
		text[i] = byte('0' + size)
	}
	return string(text), true
}

// ParseStack returns the stack with a StackText. It fails if there is none.
func ParseStack(t string) ([]int, bool) {
	if !isCount(len(t)) {
		return nil, false
	}
	s := make([]int, len(t))
	for i := range s {
		s[i] = int(t[i]) - '0'
	}
	if !IsStack(s) {
		return nil, false
	}
	return s, true
}
