package tests

import (
	"runtime"
	"slices"
	"testing"
	"time"

	"loop.example/g01221/impl"
)

// badRules are numbers of which none is a rule.
func badRules() []int {
	return []int{-1, -2, 3, 4, 256, 257, 1 << 32, 1<<32 + 1, minInt, minInt + 1, maxInt - 1, maxInt}
}

// badBooks are on no shelf of n books.
func badBooks(n int) []int {
	return []int{0, -1, -n, n + 1, n + 2, modelMaxStack + 1, 257, 1 << 32, 1<<32 + 1, minInt, maxInt}
}

// shelvesForAsking returns all shelves of up to four books, and some of each
// greater number.
func shelvesForAsking() [][]int {
	return slices.DeleteFunc(someStacks(), func(s []int) bool {
		return len(s) == 5 && s[0] != 3
	})
}

// goodAsked returns lists of no book up to MaxAsked books, of a shelf of n: books
// that are in front already, some that are asked for equally often, and some that
// are never asked for.
func goodAsked(n int) [][]int {
	falling := climbing(n, modelMaxAsked)
	slices.Reverse(falling)
	lists := allPlans(min(n, 3), 3)
	lists = append(lists, nil, climbing(n, modelMaxAsked-1), climbing(n, modelMaxAsked), falling, climbing(n, 2*n), falling[:17])
	lists = append(lists, repeated(n, modelMaxAsked), repeated(1, modelMaxAsked), append(repeated(n, 30), repeated(1, 30)...), []int{n}, []int{n, n}, []int{n, 1, n, 1, n}, []int{1, n, n})
	return append(lists, climbing((n+1)/2, 20), []int{n, (n + 1) / 2, n, 1, (n + 1) / 2})
}

// badAsked returns lists that are none of books asked for on a shelf of n: they are
// too long or have books that are not on the shelf, in front, between and last.
func badAsked(n int) [][]int {
	lists := [][]int{climbing(n, modelMaxAsked+1), repeated(1, modelMaxAsked+1), repeated(n, 1000), repeated(0, modelMaxAsked), repeated(n+1, modelMaxAsked+1)}
	for _, bad := range badBooks(n) {
		lists = append(lists, []int{bad}, []int{1, bad}, []int{bad, n}, []int{1, bad, n}, append(climbing(n, modelMaxAsked-1), bad), append([]int{bad}, climbing(n, modelMaxAsked)...))
	}
	return lists
}

// someAsked returns both for a list that may be no shelf.
func someAsked(s []int) [][]int {
	n := min(max(len(s), 1), modelMaxStack+1)
	return append(goodAsked(n), badAsked(n)...)
}

func TestLimitsOfShelves(t *testing.T) {
	if impl.MaxAsked != modelMaxAsked || impl.RuleFront != modelFront || impl.RuleUp != modelUp || impl.RuleStay != modelStay {
		t.Error("limits", impl.MaxAsked, impl.RuleFront, impl.RuleUp, impl.RuleStay)
	}
}

func TestExampleOfShelves(t *testing.T) {
	s, asked := []int{1, 2, 3}, []int{3, 3}
	for _, c := range []struct {
		rule          int
		places, after []int
		cost          int
	}{
		{impl.RuleFront, []int{3, 1}, []int{3, 1, 2}, 4},
		{impl.RuleUp, []int{3, 2}, []int{3, 1, 2}, 5},
		{impl.RuleStay, []int{3, 3}, []int{1, 2, 3}, 6},
	} {
		places, ok := impl.PlacesAsked(s, asked, c.rule)
		expectList(t, "PlacesAsked", args(s, asked, c.rule), places, ok, c.places, true)
		after, ok := impl.ShelfAfter(s, asked, c.rule)
		expectList(t, "ShelfAfter", args(s, asked, c.rule), after, ok, c.after, true)
		cost, ok := impl.ShelfCost(s, asked, c.rule)
		expect(t, "ShelfCost", args(s, asked, c.rule), cost, ok, c.cost, true)
	}
	best, ok := impl.BestFixed(s, asked)
	expectList(t, "BestFixed", args(s, asked), best, ok, []int{3, 1, 2}, true)
	fixed, ok := impl.FixedCost(s, asked)
	expect(t, "FixedCost", args(s, asked), fixed, ok, 2, true)
	bound, ok := impl.FrontBound(s, asked)
	expect(t, "FrontBound", args(s, asked), bound, ok, 7, true)
	plan, ok := impl.PlanOfFront(s, asked)
	expectList(t, "PlanOfFront", args(s, asked), plan, ok, []int{2, 3}, true)
}

func TestBooksAskedForAreTold(t *testing.T) {
	for _, s := range append(shelvesForAsking(), noStacks()...) {
		for _, asked := range someAsked(s) {
			areAsked, ok := impl.AreAsked(s, asked)
			expect(t, "AreAsked", args(s, asked), areAsked, ok, modelAreAsked(s, asked), modelIsStack(s))
		}
	}
}

// TestNamedBooksAskedFor has lists that are told to be none, which is no failure.
func TestNamedBooksAskedFor(t *testing.T) {
	for _, c := range []struct {
		s, asked []int
		want, ok bool
	}{
		{[]int{1}, nil, true, true},
		{[]int{1}, []int{1}, true, true},
		{[]int{1}, []int{2}, false, true},
		{[]int{2, 1}, []int{1, 0}, false, true},
		{[]int{3, 1, 2}, []int{3, 3, 2, 1}, true, true},
		{[]int{3, 1, 2}, []int{3, 4}, false, true},
		{[]int{3, 1, 2}, repeated(2, 60), true, true},
		{[]int{3, 1, 2}, repeated(2, 61), false, true},
		{modelSorted(9), []int{9}, true, true},
		{modelSorted(9), []int{10}, false, true},
		{modelSorted(10), []int{1}, false, false},
		{[]int{1, 1}, nil, false, false},
		{nil, nil, false, false},
	} {
		areAsked, ok := impl.AreAsked(c.s, c.asked)
		expect(t, "AreAsked", args(c.s, c.asked), areAsked, ok, c.want, c.ok)
	}
}

func checkAsked(t *testing.T, s []int, asked []int, rule int) {
	t.Helper()
	valid := modelAreAsked(s, asked) && modelIsRule(rule)
	var places, after []int
	if valid {
		places, after = modelAsk(s, asked, rule)
	}
	gotAfter, ok := impl.ShelfAfter(s, asked, rule)
	expectList(t, "ShelfAfter", args(s, asked, rule), gotAfter, ok, after, valid)
	gotPlaces, ok := impl.PlacesAsked(s, asked, rule)
	expectList(t, "PlacesAsked", args(s, asked, rule), gotPlaces, ok, places, valid)
	cost, ok := impl.ShelfCost(s, asked, rule)
	expect(t, "ShelfCost", args(s, asked, rule), cost, ok, modelSum(places), valid)
}

func TestAskedShelves(t *testing.T) {
	for _, s := range append(shelvesForAsking(), noStacks()...) {
		for _, asked := range someAsked(s) {
			for _, rule := range append(modelRules(), 3, -1, maxInt) {
				checkAsked(t, s, asked, rule)
			}
		}
	}
}

// TestAllBooksOfSmallShelves has all lists of up to five books.
func TestAllBooksOfSmallShelves(t *testing.T) {
	for n := 1; n <= 3; n++ {
		for _, s := range allStacks(n) {
			for _, asked := range allPlans(n, 5) {
				for _, rule := range modelRules() {
					checkAsked(t, s, asked, rule)
				}
			}
		}
	}
}

func TestNamedShelves(t *testing.T) {
	for _, c := range []struct {
		s, asked      []int
		rule          int
		places, after []int
	}{
		{[]int{1}, repeated(1, 3), impl.RuleFront, []int{1, 1, 1}, []int{1}},
		{[]int{1}, repeated(1, 3), impl.RuleUp, []int{1, 1, 1}, []int{1}},
		{[]int{1}, repeated(1, 3), impl.RuleStay, []int{1, 1, 1}, []int{1}},
		{[]int{2, 1}, []int{2, 2, 1, 2}, impl.RuleFront, []int{1, 1, 2, 2}, []int{2, 1}},
		{[]int{2, 1}, []int{2, 2, 1, 2}, impl.RuleUp, []int{1, 1, 2, 2}, []int{2, 1}},
		{[]int{3, 1, 2}, []int{3}, impl.RuleUp, []int{1}, []int{3, 1, 2}},
		{[]int{3, 1, 2}, []int{2}, impl.RuleUp, []int{3}, []int{3, 2, 1}},
		{[]int{3, 1, 2}, []int{2}, impl.RuleFront, []int{3}, []int{2, 3, 1}},
		{[]int{3, 1, 2}, []int{2}, impl.RuleStay, []int{3}, []int{3, 1, 2}},
		{[]int{3, 1, 2}, []int{1, 2, 3}, impl.RuleFront, []int{2, 3, 3}, []int{3, 2, 1}},
		{[]int{3, 1, 2}, []int{1, 2, 3}, impl.RuleUp, []int{2, 3, 3}, []int{1, 3, 2}},
		{[]int{3, 1, 2}, []int{1, 2, 3}, impl.RuleStay, []int{2, 3, 1}, []int{3, 1, 2}},
		{modelSorted(9), []int{9}, impl.RuleFront, []int{9}, []int{9, 1, 2, 3, 4, 5, 6, 7, 8}},
		{modelSorted(9), []int{5}, impl.RuleFront, []int{5}, []int{5, 1, 2, 3, 4, 6, 7, 8, 9}},
		{modelSorted(9), []int{9}, impl.RuleUp, []int{9}, []int{1, 2, 3, 4, 5, 6, 7, 9, 8}},
		{modelSorted(9), []int{5, 5, 5}, impl.RuleUp, []int{5, 4, 3}, []int{1, 5, 2, 3, 4, 6, 7, 8, 9}},
		{modelSorted(9), []int{9, 8, 9, 8}, impl.RuleUp, []int{9, 9, 9, 9}, modelSorted(9)},
		{modelSorted(9), []int{9, 5}, impl.RuleStay, []int{9, 5}, modelSorted(9)},
	} {
		places, ok := impl.PlacesAsked(c.s, c.asked, c.rule)
		expectList(t, "PlacesAsked", args(c.s, c.asked, c.rule), places, ok, c.places, true)
		after, ok := impl.ShelfAfter(c.s, c.asked, c.rule)
		expectList(t, "ShelfAfter", args(c.s, c.asked, c.rule), after, ok, c.after, true)
	}
}

// TestNoBookAskedFor has the empty list, for which each function succeeds.
func TestNoBookAskedFor(t *testing.T) {
	for _, s := range shelvesForAsking() {
		for _, asked := range [][]int{nil, {}} {
			for _, rule := range modelRules() {
				after, ok := impl.ShelfAfter(s, asked, rule)
				expectList(t, "ShelfAfter", args(s, asked, rule), after, ok, s, true)
				places, ok := impl.PlacesAsked(s, asked, rule)
				expectList(t, "PlacesAsked", args(s, asked, rule), places, ok, nil, true)
				cost, ok := impl.ShelfCost(s, asked, rule)
				expect(t, "ShelfCost", args(s, asked, rule), cost, ok, 0, true)
				books, ok := impl.AskedByPlaces(s, asked, rule)
				expectList(t, "AskedByPlaces", args(s, asked, rule), books, ok, nil, true)
			}
			best, ok := impl.BestFixed(s, asked)
			expectList(t, "BestFixed", args(s, asked), best, ok, s, true)
			bound, ok := impl.FrontBound(s, asked)
			expect(t, "FrontBound", args(s, asked), bound, ok, len(s)*(len(s)-1)/2, true)
			rule, cost, ok := impl.CheapestRule(s, asked)
			expectList(t, "CheapestRule", args(s, asked), []int{rule, cost}, ok, []int{impl.RuleFront, 0}, true)
			last, ok := impl.LastAsked(s, asked)
			expectList(t, "LastAsked", args(s, asked), last, ok, s, true)
			plan, ok := impl.PlanOfFront(s, asked)
			expectList(t, "PlanOfFront", args(s, asked), plan, ok, nil, true)
		}
	}
}

func TestRulesThatAreNone(t *testing.T) {
	for _, s := range shelvesForAsking() {
		for _, rule := range badRules() {
			for _, asked := range [][]int{nil, {1}, {len(s), 1}} {
				checkAsked(t, s, asked, rule)
				books, ok := impl.AskedByPlaces(s, asked, rule)
				expectList(t, "AskedByPlaces", args(s, asked, rule), books, ok, nil, false)
			}
			worst, cost, ok := impl.WorstAsked(s, 1, rule)
			expectList(t, "WorstAsked", args(s, 1, rule), worst, ok, nil, false)
			expect(t, "WorstAsked", args(s, 1, rule), cost, ok, 0, false)
			reached, ok := impl.CountReached(1, 1, rule)
			expect(t, "CountReached", args(1, 1, rule), reached, ok, 0, false)
		}
	}
}

// TestRulesAreMoves holds a book that is asked for against the insertions of chapter 8.
func TestRulesAreMoves(t *testing.T) {
	for _, s := range someStacks() {
		for i, book := range s {
			place := i + 1
			for rule, to := range []int{1, max(1, place-1), place} {
				want, _ := impl.MoveOne(s, impl.Insertion{From: place, To: to})
				after, ok := impl.ShelfAfter(s, []int{book}, rule)
				expectList(t, "ShelfAfter", args(s, book, rule), after, ok, want, true)
			}
		}
	}
}

// TestPlacesTellBooks takes each list as one of places, too.
func TestPlacesTellBooks(t *testing.T) {
	for _, s := range append(shelvesForAsking(), noStacks()...) {
		for _, places := range someAsked(s) {
			for _, rule := range append(modelRules(), 3, -1, minInt) {
				var want []int
				valid := modelAreAsked(s, places) && modelIsRule(rule)
				if valid {
					want = modelByPlaces(s, places, rule)
				}
				books, ok := impl.AskedByPlaces(s, places, rule)
				expectList(t, "AskedByPlaces", args(s, places, rule), books, ok, want, valid)
				if valid {
					again, ok := impl.PlacesAsked(s, books, rule)
					expectList(t, "PlacesAsked", args(s, books, rule), again, ok, places, true)
				}
			}
		}
	}
}

func TestBooksTellPlaces(t *testing.T) {
	for _, s := range shelvesForAsking() {
		for _, asked := range goodAsked(len(s)) {
			for _, rule := range modelRules() {
				places, _ := impl.PlacesAsked(s, asked, rule)
				again, ok := impl.AskedByPlaces(s, places, rule)
				expectList(t, "AskedByPlaces", args(s, places, rule), again, ok, asked, true)
			}
		}
	}
}

func TestNamedBooksByPlaces(t *testing.T) {
	for _, c := range []struct {
		s, places []int
		rule      int
		want      []int
	}{
		{[]int{1}, repeated(1, 60), impl.RuleUp, repeated(1, 60)},
		{[]int{3, 1, 2}, []int{3, 3, 3, 1}, impl.RuleFront, []int{2, 1, 3, 3}},
		{[]int{3, 1, 2}, []int{3, 3, 3, 1}, impl.RuleUp, []int{2, 1, 2, 3}},
		{[]int{3, 1, 2}, []int{3, 3, 3, 1}, impl.RuleStay, []int{2, 2, 2, 3}},
		{[]int{3, 1, 2}, []int{2, 2, 2}, impl.RuleFront, []int{1, 3, 1}},
		{[]int{3, 1, 2}, []int{2, 3, 2}, impl.RuleUp, []int{1, 2, 2}},
		{modelSorted(9), []int{9, 8, 7, 1}, impl.RuleFront, []int{9, 7, 5, 5}},
	} {
		books, ok := impl.AskedByPlaces(c.s, c.places, c.rule)
		expectList(t, "AskedByPlaces", args(c.s, c.places, c.rule), books, ok, c.want, true)
	}
}

func TestFixedShelvesAndBounds(t *testing.T) {
	for _, s := range append(shelvesForAsking(), noStacks()...) {
		for _, asked := range someAsked(s) {
			var best []int
			valid := modelAreAsked(s, asked)
			if valid {
				best = modelBestFixed(s, asked)
			}
			gotBest, ok := impl.BestFixed(s, asked)
			expectList(t, "BestFixed", args(s, asked), gotBest, ok, best, valid)
			fixed, ok := impl.FixedCost(s, asked)
			expect(t, "FixedCost", args(s, asked), fixed, ok, modelFixedCost(s, asked), valid)
			bound, ok := impl.FrontBound(s, asked)
			expect(t, "FrontBound", args(s, asked), bound, ok, modelFrontBound(s, asked), valid)
		}
	}
}

func TestNamedFixedShelves(t *testing.T) {
	for _, c := range []struct {
		s, asked, best []int
		fixed, bound   int
	}{
		{[]int{1}, nil, []int{1}, 0, 0},
		{[]int{1}, repeated(1, 60), []int{1}, 60, 120},
		{[]int{2, 1}, []int{1, 2}, []int{2, 1}, 3, 7},
		{[]int{2, 1}, []int{1, 2, 1}, []int{1, 2}, 4, 9},
		{[]int{3, 1, 2}, []int{2, 1}, []int{1, 2, 3}, 3, 9},
		{[]int{3, 1, 2}, []int{1, 2}, []int{1, 2, 3}, 3, 9},
		{[]int{3, 1, 2}, []int{2}, []int{2, 3, 1}, 1, 5},
		{[]int{3, 1, 2}, []int{1, 2, 3}, []int{3, 1, 2}, 6, 15},
		{[]int{4, 2, 3, 1}, []int{1, 3, 1, 3, 2}, []int{3, 1, 2, 4}, 9, 24},
		{[]int{4, 2, 3, 1}, []int{1, 1, 1, 4, 4, 2, 2}, []int{1, 4, 2, 3}, 13, 32},
		{[]int{9, 8, 7, 6, 5, 4, 3, 2, 1}, repeated(1, 60), []int{1, 9, 8, 7, 6, 5, 4, 3, 2}, 60, 156},
		{[]int{9, 8, 7, 6, 5, 4, 3, 2, 1}, append(repeated(1, 30), repeated(2, 30)...), []int{2, 1, 9, 8, 7, 6, 5, 4, 3}, 90, 216},
		{modelSorted(9), climbing(9, 54), modelSorted(9), 270, 576},
	} {
		best, ok := impl.BestFixed(c.s, c.asked)
		expectList(t, "BestFixed", args(c.s, c.asked), best, ok, c.best, true)
		fixed, ok := impl.FixedCost(c.s, c.asked)
		expect(t, "FixedCost", args(c.s, c.asked), fixed, ok, c.fixed, true)
		bound, ok := impl.FrontBound(c.s, c.asked)
		expect(t, "FrontBound", args(c.s, c.asked), bound, ok, c.bound, true)
	}
}

// TestNoFixedShelfCostsLess looks at all orders of the books.
func TestNoFixedShelfCostsLess(t *testing.T) {
	for n := 1; n <= 4; n++ {
		for _, asked := range append(allPlans(n, 4), goodAsked(n)...) {
			least := maxInt
			for _, order := range allStacks(n) {
				cost, ok := impl.ShelfCost(order, asked, impl.RuleStay)
				if !ok {
					t.Error("ShelfCost of", order, asked, "fails")
				}
				least = min(least, cost)
			}
			for _, s := range allStacks(n) {
				fixed, ok := impl.FixedCost(s, asked)
				expect(t, "FixedCost", args(s, asked), fixed, ok, least, true)
				best, _ := impl.BestFixed(s, asked)
				cost, ok := impl.ShelfCost(best, asked, impl.RuleStay)
				expect(t, "ShelfCost", args(best, asked), cost, ok, least, true)
			}
		}
	}
}

func checkBound(t *testing.T, s []int, asked []int) {
	t.Helper()
	bound, ok := impl.FrontBound(s, asked)
	cost, okCost := impl.ShelfCost(s, asked, impl.RuleFront)
	if !ok || !okCost || cost > bound {
		t.Error("RuleFront costs", cost, "on the shelf", s, "with", asked, "and the bound is", bound)
	}
}

// TestFrontCostsNoMoreThanItsBound has all lists of few books, and long ones for
// which the rule is worst.
func TestFrontCostsNoMoreThanItsBound(t *testing.T) {
	for n := 1; n <= 4; n++ {
		for _, s := range allStacks(n) {
			for _, asked := range allPlans(n, 8-n) {
				checkBound(t, s, asked)
			}
		}
	}
	for _, s := range someStacks() {
		for _, k := range []int{1, 2, len(s), 2 * len(s), 17, modelMaxAsked - 1, modelMaxAsked} {
			worst, _, ok := impl.WorstAsked(s, k, impl.RuleFront)
			if !ok || len(worst) != k {
				t.Error("WorstAsked of", s, k, "is", worst, ok)
			}
			checkBound(t, s, worst)
		}
		for _, asked := range goodAsked(len(s)) {
			checkBound(t, s, asked)
		}
	}
}

func TestCheapestRules(t *testing.T) {
	for _, s := range append(shelvesForAsking(), noStacks()...) {
		for _, asked := range someAsked(s) {
			want, least := 0, 0
			valid := modelAreAsked(s, asked)
			if valid {
				want, least = modelCheapest(s, asked)
			}
			rule, cost, ok := impl.CheapestRule(s, asked)
			expect(t, "CheapestRule", args(s, asked), rule, ok, want, valid)
			expect(t, "CheapestRule", args(s, asked), cost, ok, least, valid)
		}
	}
}

// TestNamedCheapestRules has rules with equal costs, and each rule as the only one
// that is cheapest.
func TestNamedCheapestRules(t *testing.T) {
	for _, c := range []struct {
		s, asked   []int
		rule, cost int
	}{
		{[]int{1}, repeated(1, 60), impl.RuleFront, 60},
		{[]int{3, 1, 2}, nil, impl.RuleFront, 0},
		{[]int{3, 1, 2}, []int{2}, impl.RuleFront, 3},
		{[]int{3, 1, 2}, repeated(3, 5), impl.RuleFront, 5},
		{[]int{2, 1}, []int{1, 1}, impl.RuleFront, 3},
		{[]int{1, 2, 3}, []int{3, 3}, impl.RuleFront, 4},
		{[]int{1, 2}, []int{2, 1}, impl.RuleStay, 3},
		{[]int{1, 2, 3}, []int{3, 1}, impl.RuleUp, 4},
		{[]int{1, 2, 3}, []int{2, 1, 1}, impl.RuleStay, 4},
		{[]int{1, 2, 3}, []int{3, 2, 1}, impl.RuleStay, 6},
		{[]int{1, 2, 3}, []int{3, 1, 1}, impl.RuleUp, 5},
		{[]int{1, 2, 3, 4}, []int{4, 2, 3, 1}, impl.RuleStay, 10},
		{[]int{1, 2, 3}, []int{3, 1, 3}, impl.RuleUp, 6},
		{[]int{2, 3, 1}, []int{1, 1, 2, 2, 1}, impl.RuleFront, 9},
	} {
		rule, cost, ok := impl.CheapestRule(c.s, c.asked)
		expectList(t, "CheapestRule", args(c.s, c.asked), []int{rule, cost}, ok, []int{c.rule, c.cost}, true)
	}
}

func TestLastAskedFor(t *testing.T) {
	for _, s := range append(shelvesForAsking(), noStacks()...) {
		for _, asked := range someAsked(s) {
			var want []int
			valid := modelAreAsked(s, asked)
			if valid {
				want = modelLast(s, asked)
			}
			last, ok := impl.LastAsked(s, asked)
			expectList(t, "LastAsked", args(s, asked), last, ok, want, valid)
			after, ok := impl.ShelfAfter(s, asked, impl.RuleFront)
			expectList(t, "ShelfAfter", args(s, asked), after, ok, last, valid)
		}
	}
}

func TestNamedLastAskedFor(t *testing.T) {
	for _, c := range []struct{ s, asked, want []int }{
		{[]int{1}, repeated(1, 60), []int{1}},
		{[]int{3, 1, 2}, []int{3, 3}, []int{3, 1, 2}},
		{[]int{3, 1, 2}, []int{1, 2}, []int{2, 1, 3}},
		{[]int{3, 1, 2}, []int{2, 1, 2}, []int{2, 1, 3}},
		{[]int{3, 1, 2}, []int{2, 1, 1}, []int{1, 2, 3}},
		{[]int{5, 4, 3, 2, 1}, []int{2, 4, 2}, []int{2, 4, 5, 3, 1}},
		{modelSorted(9), modelSorted(9), []int{9, 8, 7, 6, 5, 4, 3, 2, 1}},
	} {
		last, ok := impl.LastAsked(c.s, c.asked)
		expectList(t, "LastAsked", args(c.s, c.asked), last, ok, c.want, true)
	}
}

func TestReachedShelvesAreCounted(t *testing.T) {
	for n := 1; n <= modelMaxReached; n++ {
		for _, rule := range modelRules() {
			reached := modelReached(modelSorted(n), modelMaxAskedToReach, rule)
			for k, shelves := range reached {
				count, ok := impl.CountReached(n, k, rule)
				expect(t, "CountReached", args(n, k, rule), count, ok, len(shelves), true)
			}
		}
	}
}

// TestReachedShelvesOfAllLists asks for the books of all lists, one list at a time.
func TestReachedShelvesOfAllLists(t *testing.T) {
	for n := 1; n <= 4; n++ {
		for _, rule := range modelRules() {
			reached := make([]map[modelKey]bool, 6)
			for _, asked := range allPlans(n, 5) {
				after, _ := impl.ShelfAfter(modelSorted(n), asked, rule)
				if reached[len(asked)] == nil {
					reached[len(asked)] = map[modelKey]bool{}
				}
				reached[len(asked)][keyOf(after)] = true
			}
			for k, shelves := range reached {
				count, ok := impl.CountReached(n, k, rule)
				expect(t, "CountReached", args(n, k, rule), count, ok, len(shelves), true)
			}
		}
	}
}

func TestNamedCountsOfReachedShelves(t *testing.T) {
	for _, c := range []struct{ n, k, rule, want int }{
		{1, 0, impl.RuleFront, 1}, {1, 20, impl.RuleFront, 1}, {1, 20, impl.RuleUp, 1}, {1, 20, impl.RuleStay, 1},
		{2, 0, impl.RuleUp, 1}, {2, 1, impl.RuleUp, 2}, {2, 1, impl.RuleFront, 2}, {2, 20, impl.RuleFront, 2},
		{3, 1, impl.RuleFront, 3}, {3, 2, impl.RuleFront, 6}, {3, 1, impl.RuleUp, 3}, {3, 2, impl.RuleUp, 5}, {3, 3, impl.RuleUp, 6},
		{6, 0, impl.RuleFront, 1}, {6, 0, impl.RuleUp, 1}, {6, 0, impl.RuleStay, 1},
		{6, 1, impl.RuleFront, 6}, {6, 2, impl.RuleFront, 30}, {6, 3, impl.RuleFront, 120}, {6, 4, impl.RuleFront, 360}, {6, 5, impl.RuleFront, 720}, {6, 20, impl.RuleFront, 720},
		{6, 1, impl.RuleUp, 6}, {6, 2, impl.RuleUp, 20}, {6, 3, impl.RuleUp, 49}, {6, 14, impl.RuleUp, 719}, {6, 15, impl.RuleUp, 720}, {6, 20, impl.RuleUp, 720},
		{6, 1, impl.RuleStay, 1}, {6, 20, impl.RuleStay, 1},
	} {
		count, ok := impl.CountReached(c.n, c.k, c.rule)
		expect(t, "CountReached", args(c.n, c.k, c.rule), count, ok, c.want, true)
	}
}

func TestCountsOfReachedShelvesOutOfRange(t *testing.T) {
	for _, n := range someNumbers() {
		for _, k := range append(someNumbers(), 19, 20, 21, 60) {
			for _, rule := range []int{modelFront, modelStay, 3, -1} {
				if isIn(n, modelMaxReached) && isIn(k+1, modelMaxAskedToReach+1) && modelIsRule(rule) {
					continue
				}
				count, ok := impl.CountReached(n, k, rule)
				expect(t, "CountReached", args(n, k, rule), count, ok, 0, false)
			}
		}
	}
}

// shelfPairs returns all pairs of shelves of up to four books, and some of more.
func shelfPairs() [][2][]int {
	var pairs [][2][]int
	for n := 1; n <= 4; n++ {
		for _, s := range allStacks(n) {
			for _, other := range allStacks(n) {
				pairs = append(pairs, [2][]int{s, other})
			}
		}
	}
	for _, s := range someStacks() {
		for k := 1; k <= len(s) && len(s) > 4; k++ {
			other := modelTurn(modelTurn(s, k), (k+len(s))/2)
			pairs = append(pairs, [2][]int{s, other}, [2][]int{other, s})
		}
	}
	return pairs
}

func TestAskedToReach(t *testing.T) {
	for _, pair := range shelfPairs() {
		s, other := pair[0], pair[1]
		asked, ok := impl.AskedToReach(s, other)
		expectList(t, "AskedToReach", args(s, other), asked, ok, modelToReach(s, other), true)
		after, ok := impl.ShelfAfter(s, asked, impl.RuleFront)
		expectList(t, "ShelfAfter", args(s, asked), after, ok, other, true)
	}
}

// TestNoShorterListReaches holds the lists against the least numbers of books by
// which a search comes to each shelf.
func TestNoShorterListReaches(t *testing.T) {
	for n := 1; n <= 5; n++ {
		for _, s := range allStacks(n) {
			reached := modelReached(s, n-1, modelFront)
			for _, other := range allStacks(n) {
				least := slices.IndexFunc(reached, func(shelves map[modelKey]bool) bool { return shelves[keyOf(other)] })
				asked, ok := impl.AskedToReach(s, other)
				expect(t, "the length of AskedToReach", args(s, other), len(asked), ok, least, true)
			}
		}
	}
}

func TestNamedAskedToReach(t *testing.T) {
	for _, c := range []struct{ s, other, want []int }{
		{[]int{1}, []int{1}, nil},
		{[]int{2, 1}, []int{1, 2}, []int{1}},
		{[]int{3, 1, 2}, []int{3, 1, 2}, nil},
		{[]int{3, 1, 2}, []int{1, 3, 2}, []int{1}},
		{[]int{3, 1, 2}, []int{3, 2, 1}, []int{2, 3}},
		{[]int{3, 1, 2}, []int{1, 2, 3}, []int{2, 1}},
		{[]int{1, 2, 3, 4}, []int{4, 2, 1, 3}, []int{2, 4}},
		{[]int{1, 2, 3, 4}, []int{3, 1, 2, 4}, []int{3}},
		{[]int{1, 2, 3, 4}, []int{1, 2, 4, 3}, []int{4, 2, 1}},
		{modelSorted(9), modelSorted(9), nil},
		{modelSorted(9), []int{9, 8, 7, 6, 5, 4, 3, 2, 1}, []int{2, 3, 4, 5, 6, 7, 8, 9}},
		{modelSorted(9), []int{2, 3, 4, 5, 6, 7, 8, 9, 1}, []int{9, 8, 7, 6, 5, 4, 3, 2}},
		{modelSorted(9), []int{9, 1, 2, 3, 4, 5, 6, 7, 8}, []int{9}},
		{[]int{5, 1, 4, 2, 3, 6}, []int{6, 2, 5, 1, 4, 3}, []int{2, 6}},
	} {
		asked, ok := impl.AskedToReach(c.s, c.other)
		expectList(t, "AskedToReach", args(c.s, c.other), asked, ok, c.want, true)
	}
}

func TestShelvesThatReachNothing(t *testing.T) {
	stacks := append(noStacks(), []int{1}, []int{2, 1}, []int{3, 1, 2}, modelSorted(8), modelSorted(9))
	for _, s := range stacks {
		for _, other := range stacks {
			if modelIsStack(s) && modelIsStack(other) && len(s) == len(other) {
				continue
			}
			asked, ok := impl.AskedToReach(s, other)
			expectList(t, "AskedToReach", args(s, other), asked, ok, nil, false)
		}
	}
}

func TestWorstBooks(t *testing.T) {
	for _, s := range append(shelvesForAsking(), noStacks()...) {
		n := len(s)
		for _, k := range append(someNumbers(), 12, 59, 60, 61, 62) {
			for _, rule := range append(modelRules(), 3, -1) {
				var want []int
				valid := modelIsStack(s) && isIn(k+1, modelMaxAsked+1) && modelIsRule(rule)
				if valid {
					want = modelByPlaces(s, repeated(n, k), rule)
				}
				asked, cost, ok := impl.WorstAsked(s, k, rule)
				expectList(t, "WorstAsked", args(s, k, rule), asked, ok, want, valid)
				expect(t, "WorstAsked", args(s, k, rule), cost, ok, k*n, valid)
				if valid {
					sum, ok := impl.ShelfCost(s, asked, rule)
					expect(t, "ShelfCost", args(s, asked, rule), sum, ok, cost, true)
				}
			}
		}
	}
}

// TestNoListIsWorse looks at all lists of as many books: no other one costs as much.
func TestNoListIsWorse(t *testing.T) {
	for n := 1; n <= 4; n++ {
		for _, s := range allStacks(n) {
			for _, asked := range allPlans(n, 4) {
				for _, rule := range modelRules() {
					worst, most, ok := impl.WorstAsked(s, len(asked), rule)
					cost, _ := impl.ShelfCost(s, asked, rule)
					if !ok || cost > most || (cost == most) != slices.Equal(asked, worst) {
						t.Errorf("WorstAsked of %v, %v, %v is %v, %v, but %v costs %v", s, len(asked), rule, worst, most, asked, cost)
					}
				}
			}
		}
	}
}

func TestNamedWorstBooks(t *testing.T) {
	for _, c := range []struct {
		s       []int
		k, rule int
		want    []int
		cost    int
	}{
		{[]int{1}, 60, impl.RuleFront, repeated(1, 60), 60},
		{[]int{3, 1, 2}, 0, impl.RuleFront, nil, 0},
		{[]int{3, 1, 2}, 4, impl.RuleFront, []int{2, 1, 3, 2}, 12},
		{[]int{3, 1, 2}, 4, impl.RuleUp, []int{2, 1, 2, 1}, 12},
		{[]int{3, 1, 2}, 4, impl.RuleStay, []int{2, 2, 2, 2}, 12},
		{modelSorted(9), 60, impl.RuleStay, repeated(9, 60), 540},
	} {
		asked, cost, ok := impl.WorstAsked(c.s, c.k, c.rule)
		expectList(t, "WorstAsked", args(c.s, c.k, c.rule), asked, ok, c.want, true)
		expect(t, "WorstAsked", args(c.s, c.k, c.rule), cost, ok, c.cost, true)
	}
}

func checkPlanOfFront(t *testing.T, s []int, asked []int) {
	t.Helper()
	var want []int
	valid := modelAreAsked(s, asked)
	if valid {
		want = modelPlanOfFront(s, asked)
		valid = len(want) <= modelMaxPlan
	}
	plan, ok := impl.PlanOfFront(s, asked)
	expectList(t, "PlanOfFront", args(s, asked), plan, ok, want, valid)
	if !valid {
		return
	}
	after, _ := impl.ShelfAfter(s, asked, impl.RuleFront)
	played, ok := impl.PlayPlan(s, plan)
	expectList(t, "PlayPlan", args(s, plan), played, ok, after, true)
}

func TestPlansOfFront(t *testing.T) {
	for _, s := range append(shelvesForAsking(), noStacks()...) {
		for _, asked := range someAsked(s) {
			checkPlanOfFront(t, s, asked)
		}
	}
	for n := 1; n <= 4; n++ {
		for _, s := range allStacks(n) {
			for _, asked := range allPlans(n, 4) {
				checkPlanOfFront(t, s, asked)
			}
		}
	}
}

func TestNamedPlansOfFront(t *testing.T) {
	for _, c := range []struct{ s, asked, want []int }{
		{[]int{1}, repeated(1, 60), nil},
		{[]int{3, 1, 2}, repeated(3, 60), nil},
		{[]int{3, 1, 2}, []int{1}, []int{2}},
		{[]int{3, 1, 2}, []int{2}, []int{2, 3}},
		{[]int{3, 1, 2}, []int{1, 1, 3, 2}, []int{2, 2, 2, 3}},
		{modelSorted(9), []int{9}, []int{8, 9}},
		{modelSorted(9), []int{9, 9, 1, 9}, []int{8, 9, 2, 2}},
	} {
		plan, ok := impl.PlanOfFront(c.s, c.asked)
		expectList(t, "PlanOfFront", args(c.s, c.asked), plan, ok, c.want, true)
	}
}

// TestLongPlansOfFront has books at places that make plans of MaxPlan turns, one
// turn less and more: place 1 makes no turn, 2 makes one, and each other one two.
func TestLongPlansOfFront(t *testing.T) {
	twos, threes := repeated(2, modelMaxPlan), repeated(3, modelMaxPlan/2)
	for _, c := range []struct {
		places []int
		turns  int
	}{
		{twos[1:], 39},
		{twos, 40},
		{append(slices.Clone(twos), 2), 41},
		{append(slices.Clone(twos), 3), 42},
		{append(slices.Clone(twos), repeated(1, 20)...), 40},
		{append(repeated(1, 20), twos...), 40},
		{append(slices.Clone(twos[1:]), 3), 41},
		{append([]int{3}, twos[2:]...), 40},
		{append([]int{3}, twos[1:]...), 41},
		{threes, 40},
		{append(slices.Clone(threes), 1), 40},
		{append(slices.Clone(threes), 2), 41},
		{append(slices.Clone(threes[1:]), 2), 39},
		{append(slices.Clone(threes[1:]), 2, 2), 40},
		{append(slices.Clone(threes), 3), 42},
		{repeated(3, modelMaxAsked), 120},
		{repeated(2, modelMaxAsked), 60},
	} {
		for _, s := range [][]int{{3, 1, 2}, {1, 2, 3}, {4, 1, 3, 2}, modelSorted(9)} {
			asked, _ := impl.AskedByPlaces(s, c.places, impl.RuleFront)
			checkPlanOfFront(t, s, asked)
			plan, ok := impl.PlanOfFront(s, asked)
			expect(t, "the length of PlanOfFront", args(s, asked), len(plan), ok, c.turns, c.turns <= modelMaxPlan)
		}
	}
}

// TestOneBook has what each function makes of a shelf of one book.
func TestOneBook(t *testing.T) {
	s := []int{1}
	for _, k := range []int{0, 1, modelMaxAsked} {
		asked := repeated(1, k)
		for _, rule := range modelRules() {
			after, ok := impl.ShelfAfter(s, asked, rule)
			expectList(t, "ShelfAfter", args(s, asked, rule), after, ok, s, true)
			cost, ok := impl.ShelfCost(s, asked, rule)
			expect(t, "ShelfCost", args(s, asked, rule), cost, ok, k, true)
			books, ok := impl.AskedByPlaces(s, asked, rule)
			expectList(t, "AskedByPlaces", args(s, asked, rule), books, ok, asked, true)
			worst, cost, ok := impl.WorstAsked(s, k, rule)
			expectList(t, "WorstAsked", args(s, k, rule), worst, ok, asked, true)
			expect(t, "WorstAsked", args(s, k, rule), cost, ok, k, true)
		}
		bound, ok := impl.FrontBound(s, asked)
		expect(t, "FrontBound", args(s, asked), bound, ok, 2*k, true)
		last, ok := impl.LastAsked(s, asked)
		expectList(t, "LastAsked", args(s, asked), last, ok, s, true)
	}
	reach, ok := impl.AskedToReach(s, s)
	expectList(t, "AskedToReach", args(s, s), reach, ok, nil, true)
}

// TestShelvesAreEnded looks whether a call leaves a goroutine behind, be the list
// empty, long or none.
func TestShelvesAreEnded(t *testing.T) {
	before := runtime.NumGoroutine()
	for range 200 {
		for _, asked := range [][]int{nil, {3, 1, 3}, repeated(2, modelMaxAsked), {4}} {
			for _, rule := range append(modelRules(), -1) {
				for _, c := range shelfCalls() {
					c.run(given{first: []int{3, 1, 2}, second: asked, x: rule, y: len(asked)})
				}
			}
		}
	}
	// A goroutine that has done all that it does may still be there for a moment.
	for tries := 0; runtime.NumGoroutine() > before && tries < 100; tries++ {
		time.Sleep(10 * time.Millisecond)
	}
	if left := runtime.NumGoroutine() - before; left > 0 {
		t.Error("calls have left", left, "goroutines behind")
	}
}
