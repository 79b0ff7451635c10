package tests

import (
	"slices"
	"strings"
	"testing"

	"loop.example/g01221/impl"
)

// args lists what a call was given, for messages.
func args(a ...any) []any { return a }

func TestLimitsOfStacks(t *testing.T) {
	if impl.MaxStack != modelMaxStack || impl.MaxPlan != modelMaxPlan {
		t.Error("limits", impl.MaxStack, impl.MaxPlan)
	}
}

func TestExampleOfStacks(t *testing.T) {
	s := []int{3, 1, 2}
	got, ok := impl.TurnStack(s, 2)
	expectList(t, "TurnStack", args(s, 2), got, ok, []int{1, 3, 2}, true)
	got, ok = impl.TurnStack(s, 3)
	expectList(t, "TurnStack", args(s, 3), got, ok, []int{2, 1, 3}, true)
	sorts, ok := impl.SortsStack(s, []int{3, 2})
	expect(t, "SortsStack", args(s, "3, 2"), sorts, ok, true, true)
	text, ok := impl.StackText(s)
	expect(t, "StackText", args(s), text, ok, "312", true)
	got, ok = impl.BringTo(s, 2, 3)
	expectList(t, "BringTo", args(s, 2, 3), got, ok, nil, true)
	got, ok = impl.BringTo(s, 1, 3)
	expectList(t, "BringTo", args(s, 1, 3), got, ok, []int{2, 3}, true)
}

func TestStacksAreTold(t *testing.T) {
	for _, s := range someStacks() {
		if !impl.IsStack(s) {
			t.Error("no stack", s)
		}
	}
	for n := 6; n <= 7; n++ {
		for _, s := range allStacks(n) {
			if !impl.IsStack(s) {
				t.Error("no stack", s)
			}
		}
	}
	for _, s := range noStacks() {
		if impl.IsStack(s) {
			t.Error("a stack", s)
		}
	}
}

// TestListsOfSmallNumbers looks at all lists of four numbers and fewer, most of which are no stacks.
func TestListsOfSmallNumbers(t *testing.T) {
	lists := [][]int{{}}
	for range 4 {
		for _, s := range lists {
			for x := -1; x <= 5; x++ {
				lists = append(lists, append(slices.Clone(s), x))
			}
		}
		for _, s := range lists {
			if impl.IsStack(s) != modelIsStack(s) {
				t.Fatal("IsStack of", s)
			}
		}
		lists = longest(lists)
	}
}

// longest keeps the lists that are as long as the last one.
func longest(lists [][]int) [][]int {
	length := len(lists[len(lists)-1])
	return slices.DeleteFunc(lists, func(s []int) bool { return len(s) < length })
}

func TestSortedStacks(t *testing.T) {
	for _, s := range append(someStacks(), noStacks()...) {
		got, ok := impl.IsSortedStack(s)
		expect(t, "IsSortedStack", args(s), got, ok, slices.IsSorted(s), modelIsStack(s))
	}
}

func TestTurns(t *testing.T) {
	for _, s := range append(someStacks(), noStacks()...) {
		for _, k := range someNumbers() {
			var want []int
			valid := modelIsStack(s) && isIn(k, len(s))
			if valid {
				want = modelTurn(s, k)
			}
			got, ok := impl.TurnStack(s, k)
			expectList(t, "TurnStack", args(s, k), got, ok, want, valid)
		}
	}
}

func TestTurnsAreUndone(t *testing.T) {
	for _, s := range someStacks() {
		for k := 1; k <= len(s); k++ {
			turned, _ := impl.TurnStack(s, k)
			again, ok := impl.TurnStack(turned, k)
			expectList(t, "TurnStack", args(turned, k), again, ok, s, true)
		}
	}
}

func TestPlansAreTold(t *testing.T) {
	for _, n := range someNumbers() {
		for _, plan := range somePlans(min(max(n, 1), modelMaxStack)) {
			if impl.IsPlan(n, plan) != modelIsPlan(n, plan) {
				t.Error("IsPlan of", n, plan)
			}
		}
	}
	for n := 1; n <= modelMaxStack; n++ {
		if !impl.IsPlan(n, nil) || !impl.IsPlan(n, repeated(n, 40)) || impl.IsPlan(n, repeated(1, 41)) || impl.IsPlan(n, []int{n + 1}) {
			t.Error("plans for", n)
		}
	}
	if impl.IsPlan(0, nil) || impl.IsPlan(10, nil) || impl.IsPlan(-1, []int{}) || impl.IsPlan(10, []int{10}) {
		t.Error("there are no stacks of so many pancakes")
	}
}

func TestPlansPlayed(t *testing.T) {
	for _, s := range append(someStacks(), noStacks()...) {
		for _, plan := range somePlans(len(s)%modelMaxStack + 1) {
			checkPlayed(t, s, plan)
		}
		for _, plan := range somePlans(min(max(len(s), 1), modelMaxStack)) {
			checkPlayed(t, s, plan)
		}
	}
}

func checkPlayed(t *testing.T, s []int, plan []int) {
	t.Helper()
	var want []int
	var wantAlong [][]int
	valid := modelIsStack(s) && modelIsPlan(len(s), plan)
	if valid {
		want = modelPlay(s, plan)
		for made := 0; made <= len(plan); made++ {
			wantAlong = append(wantAlong, modelPlay(s, plan[:made]))
		}
	}
	got, ok := impl.PlayPlan(s, plan)
	expectList(t, "PlayPlan", args(s, plan), got, ok, want, valid)
	sorts, ok := impl.SortsStack(s, plan)
	expect(t, "SortsStack", args(s, plan), sorts, ok, slices.IsSorted(want), valid)
	along, ok := impl.StacksAlong(s, plan)
	if ok != valid || !slices.EqualFunc(along, wantAlong, slices.Equal[[]int]) {
		t.Errorf("StacksAlong of %v, %v is %v, %v", s, plan, along, ok)
	}
}

func TestPlansThatSort(t *testing.T) {
	for _, s := range allStacks(4) {
		sorted := 0
		for _, plan := range allPlans(4, 4) {
			sorts, ok := impl.SortsStack(s, plan)
			expect(t, "SortsStack", args(s, plan), sorts, ok, slices.IsSorted(modelPlay(s, plan)), true)
			if sorts {
				sorted++
			}
		}
		if sorted == 0 {
			t.Error("four turns sort each stack of four, but not", s)
		}
	}
}

func TestPlansOfNumbers(t *testing.T) {
	for _, n := range someNumbers() {
		for _, plan := range somePlans(min(max(n, 1), modelMaxStack)) {
			checkPlanOf(t, n, plan)
		}
	}
	for _, plan := range allPlans(4, 5) {
		checkPlanOf(t, 4, plan)
	}
}

func checkPlanOf(t *testing.T, n int, plan []int) {
	t.Helper()
	var back, short, made []int
	valid := modelIsPlan(n, plan)
	if valid {
		for _, k := range plan {
			back = append([]int{k}, back...)
		}
		short = modelShort(plan)
		made = modelPlay(modelSorted(n), plan)
	}
	got, ok := impl.BackPlan(n, plan)
	expectList(t, "BackPlan", args(n, plan), got, ok, back, valid)
	got, ok = impl.ShortPlan(n, plan)
	expectList(t, "ShortPlan", args(n, plan), got, ok, short, valid)
	got, ok = impl.StackOfPlan(n, plan)
	expectList(t, "StackOfPlan", args(n, plan), got, ok, made, valid)
}

func TestShortPlans(t *testing.T) {
	for _, c := range []struct {
		n          int
		plan, want []int
	}{
		{1, nil, nil}, {1, repeated(1, 40), nil}, {3, []int{1, 2, 1}, []int{2}}, {3, []int{2, 1, 2}, nil}, {3, []int{2, 2, 2}, []int{2}},
		{3, []int{2, 3, 3, 2}, nil}, {3, []int{2, 3, 1, 3, 3}, []int{2, 3}}, {4, []int{4, 2, 3, 1, 3, 2, 3}, []int{4, 3}},
		{3, []int{2, 3, 2, 3}, []int{2, 3, 2, 3}}, {9, repeated(9, 40), nil}, {9, repeated(9, 39), []int{9}},
		{9, slices.Concat([]int{2, 3, 4, 5, 6, 7, 8, 9, 1}, []int{9, 8, 7, 6, 5, 4, 3, 2}, []int{7}), []int{7}},
	} {
		got, ok := impl.ShortPlan(c.n, c.plan)
		expectList(t, "ShortPlan", args(c.n, c.plan), got, ok, c.want, true)
	}
	long := append(climbing(9, 20), modelTurn(climbing(9, 20), 20)...)
	got, ok := impl.ShortPlan(9, long)
	expectList(t, "ShortPlan", args(9, long), got, ok, nil, true)
}

func TestShortPlansDoTheSame(t *testing.T) {
	for _, plan := range allPlans(4, 5) {
		short, _ := impl.ShortPlan(4, plan)
		same, ok := impl.AreSamePlans(4, plan, short)
		expect(t, "AreSamePlans", args(4, plan, short), same, ok, true, true)
	}
}

func TestPlansAreUndone(t *testing.T) {
	for _, s := range someStacks() {
		for _, plan := range somePlans(len(s)) {
			back, ok := impl.BackPlan(len(s), plan)
			if !ok {
				continue
			}
			there, _ := impl.PlayPlan(s, plan)
			home, ok := impl.PlayPlan(there, back)
			expectList(t, "PlayPlan", args(there, back), home, ok, s, true)
		}
	}
}

func TestPlaces(t *testing.T) {
	for _, s := range append(someStacks(), noStacks()...) {
		for _, x := range someNumbers() {
			valid := modelIsStack(s) && isIn(x, len(s))
			place, ok := impl.PlaceIn(s, x)
			expect(t, "PlaceIn", args(s, x), place, ok, modelPlace(s, x), valid)
			var want []int
			if x != 1 {
				want = []int{x}
			}
			plan, ok := impl.TopTo(s, x)
			expectList(t, "TopTo", args(s, x), plan, ok, want, valid)
			if valid {
				brought := modelPlay(s, plan)
				expect(t, "PlaceIn", args(brought, s[0]), modelPlace(brought, s[0]), true, x, true)
			}
		}
	}
}

func TestSizesAreBrought(t *testing.T) {
	for _, s := range append(someStacks(), noStacks()...) {
		for _, size := range someNumbers() {
			for _, place := range someNumbers() {
				checkBrought(t, s, size, place)
			}
		}
	}
}

func checkBrought(t *testing.T, s []int, size int, place int) {
	t.Helper()
	valid := modelIsStack(s) && isIn(size, len(s)) && isIn(place, len(s))
	var want []int
	if from := modelPlace(s, size); from != place {
		if from != 1 {
			want = append(want, from)
		}
		if place != 1 {
			want = append(want, place)
		}
	}
	plan, ok := impl.BringTo(s, size, place)
	expectList(t, "BringTo", args(s, size, place), plan, ok, want, valid)
	if valid && modelPlace(modelPlay(s, plan), size) != place {
		t.Errorf("BringTo of %v, %v, %v does not bring it: %v", s, size, place, plan)
	}
}

func TestStacksReadByEachOther(t *testing.T) {
	lists := append(someStacks(), noStacks()...)
	for _, s := range lists {
		for _, u := range lists {
			valid := modelIsStack(s) && modelIsStack(u) && len(s) == len(u)
			var want []int
			if valid {
				for _, place := range u {
					want = append(want, s[place-1])
				}
			}
			got, ok := impl.ThenStack(s, u)
			expectList(t, "ThenStack", args(s, u), got, ok, want, valid)
		}
	}
}

func TestInverseStacks(t *testing.T) {
	for _, s := range append(someStacks(), noStacks()...) {
		valid := modelIsStack(s)
		var inverse, back, swapped []int
		if valid {
			for size := 1; size <= len(s); size++ {
				inverse = append(inverse, modelPlace(s, size))
			}
			back = modelTurn(s, len(s))
			for _, size := range s {
				swapped = append(swapped, len(s)+1-size)
			}
		}
		got, ok := impl.InverseStack(s)
		expectList(t, "InverseStack", args(s), got, ok, inverse, valid)
		got, ok = impl.BackStack(s)
		expectList(t, "BackStack", args(s), got, ok, back, valid)
		got, ok = impl.SwapSizes(s)
		expectList(t, "SwapSizes", args(s), got, ok, swapped, valid)
	}
}

func TestInverseStacksUndo(t *testing.T) {
	for _, s := range someStacks() {
		inverse, _ := impl.InverseStack(s)
		got, ok := impl.ThenStack(s, inverse)
		expectList(t, "ThenStack", args(s, inverse), got, ok, modelSorted(len(s)), true)
		got, ok = impl.ThenStack(inverse, s)
		expectList(t, "ThenStack", args(inverse, s), got, ok, modelSorted(len(s)), true)
		got, ok = impl.InverseStack(inverse)
		expectList(t, "InverseStack", args(inverse), got, ok, s, true)
	}
}

func TestPlansAreReadAsStacks(t *testing.T) {
	for _, s := range someStacks() {
		for _, plan := range somePlans(len(s)) {
			of, ok := impl.StackOfPlan(len(s), plan)
			if !ok {
				continue
			}
			played, _ := impl.PlayPlan(s, plan)
			then, ok := impl.ThenStack(s, of)
			expectList(t, "ThenStack", args(s, of), then, ok, played, true)
		}
	}
}

func TestSamePlans(t *testing.T) {
	for n := 1; n <= 4; n++ {
		plans := allPlans(n, 3)
		for _, a := range plans {
			for _, b := range plans {
				same, ok := impl.AreSamePlans(n, a, b)
				expect(t, "AreSamePlans", args(n, a, b), same, ok, modelSame(n, a, b), true)
			}
		}
	}
	for _, c := range []struct {
		n    int
		a, b []int
		want bool
	}{
		{1, nil, repeated(1, 40), true}, {3, []int{2, 3, 2, 3, 2, 3}, nil, true}, {3, []int{2, 3, 2}, []int{3, 2, 3}, true},
		{4, []int{2, 3, 2}, []int{3, 2, 3}, true}, {4, []int{2, 4, 2}, []int{4, 2, 4}, false}, {9, []int{9}, []int{8}, false},
		{9, repeated(9, 40), repeated(8, 40), true}, {9, repeated(9, 39), repeated(8, 39), false}, {9, []int{9}, nil, false},
	} {
		same, ok := impl.AreSamePlans(c.n, c.a, c.b)
		expect(t, "AreSamePlans", args(c.n, c.a, c.b), same, ok, c.want, true)
	}
}

// modelSame looks at each stack, as the document says it.
func modelSame(n int, a []int, b []int) bool {
	for _, s := range allStacks(n) {
		if !slices.Equal(modelPlay(s, a), modelPlay(s, b)) {
			return false
		}
	}
	return true
}

func TestNoPlansAreNotSame(t *testing.T) {
	for _, n := range someNumbers() {
		for _, plan := range somePlans(min(max(n, 1), modelMaxStack)) {
			valid := modelIsPlan(n, plan)
			same, ok := impl.AreSamePlans(n, plan, plan)
			expect(t, "AreSamePlans", args(n, plan, plan), same, ok, true, valid)
			same, ok = impl.AreSamePlans(n, plan, nil)
			expect(t, "AreSamePlans", args(n, plan, nil), same, ok, valid && len(modelDone(n, plan)) == 0, valid)
			same, ok = impl.AreSamePlans(n, nil, plan)
			expect(t, "AreSamePlans", args(n, nil, plan), same, ok, valid && len(modelDone(n, plan)) == 0, valid)
		}
	}
}

// modelDone returns the places at which a plan leaves another size than before.
func modelDone(n int, plan []int) []int {
	var places []int
	for i, size := range modelPlay(modelSorted(n), plan) {
		if size != i+1 {
			places = append(places, i+1)
		}
	}
	return places
}

func TestTextsOfStacks(t *testing.T) {
	for _, s := range append(someStacks(), noStacks()...) {
		valid := modelIsStack(s)
		want := ""
		if valid {
			for _, size := range s {
				want += string("0123456789"[size])
			}
		}
		text, ok := impl.StackText(s)
		expect(t, "StackText", args(s), text, ok, want, valid)
		if valid {
			back, ok := impl.ParseStack(text)
			expectList(t, "ParseStack", args(text), back, ok, s, true)
		}
	}
}

func TestTextsThatAreNone(t *testing.T) {
	for _, text := range []string{
		"", "0", "2", "9", "11", "13", "01", "10", "012", "3 1 2", "3,1,2", " 312", "312 ", "312\n", "+12", "-12", "1-2", "31a", "a", "x12", "31\x002",
		"12345678", "123456780", "1234567890", "12345678910", "1234567899", "123456788", "234567890", "\xb1", "1\xb2", "１", "1²", "٢١",
		strings.Repeat("1", 1000), "1:2", "1/2", "123456789:", "/12", "b1c2",
	} {
		want, valid := modelParse(text)
		got, ok := impl.ParseStack(text)
		expectList(t, "ParseStack", args(text), got, ok, want, valid)
	}
}

// TestTextsOfTwoBytes looks at all of them: two have stacks.
func TestTextsOfTwoBytes(t *testing.T) {
	for a := range 256 {
		one := string([]byte{byte(a)})
		want, valid := modelParse(one)
		got, ok := impl.ParseStack(one)
		expectList(t, "ParseStack", args(one), got, ok, want, valid)
		for b := range 256 {
			two := string([]byte{byte(a), byte(b)})
			want, valid := modelParse(two)
			got, ok := impl.ParseStack(two)
			expectList(t, "ParseStack", args(two), got, ok, want, valid)
		}
	}
}

func modelParse(text string) ([]int, bool) {
	var s []int
	for i := range len(text) {
		s = append(s, strings.IndexByte("0123456789", text[i]))
	}
	return s, modelIsStack(s)
}
