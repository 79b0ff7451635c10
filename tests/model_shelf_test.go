package tests

import "slices"

// The model of chapter 9, said again without the program, as model_test.go does
// for chapter 1.

const (
	modelMaxAsked        = 60
	modelMaxReached      = 6
	modelMaxAskedToReach = 20
)

const (
	modelFront = 0
	modelUp    = 1
	modelStay  = 2
)

func modelRules() []int { return []int{modelFront, modelUp, modelStay} }

func modelIsRule(rule int) bool { return slices.Contains(modelRules(), rule) }

func modelAreAsked(s []int, asked []int) bool {
	return modelIsStack(s) && len(asked) <= modelMaxAsked &&
		!slices.ContainsFunc(asked, func(book int) bool { return !slices.Contains(s, book) })
}

// modelLent returns the shelf behind a book that is asked for.
func modelLent(s []int, book int, rule int) []int {
	place := modelPlace(s, book)
	if rule == modelFront {
		others := slices.DeleteFunc(slices.Clone(s), func(x int) bool { return x == book })
		return slices.Concat([]int{book}, others)
	}
	lent := slices.Clone(s)
	if rule == modelUp && place > 1 {
		lent[place-2], lent[place-1] = book, lent[place-2]
	}
	return lent
}

// modelAsk returns the places of books asked for, and the shelf behind them.
func modelAsk(s []int, asked []int, rule int) ([]int, []int) {
	var places []int
	for _, book := range asked {
		places = append(places, modelPlace(s, book))
		s = modelLent(s, book, rule)
	}
	return places, s
}

func modelSum(numbers []int) int {
	sum := 0
	for _, x := range numbers {
		sum += x
	}
	return sum
}

func modelCost(s []int, asked []int, rule int) int {
	places, _ := modelAsk(s, asked, rule)
	return modelSum(places)
}

func modelByPlaces(s []int, places []int, rule int) []int {
	var books []int
	for _, place := range places {
		book := s[place-1]
		books = append(books, book)
		s = modelLent(s, book, rule)
	}
	return books
}

func modelTimes(asked []int, book int) int {
	times := 0
	for _, x := range asked {
		if x == book {
			times++
		}
	}
	return times
}

// modelBestFixed takes again and again the first one of the books that are left of
// which none is asked for more often.
func modelBestFixed(s []int, asked []int) []int {
	left := slices.Clone(s)
	var best []int
	for len(left) > 0 {
		first := 0
		for i, book := range left {
			if modelTimes(asked, book) > modelTimes(asked, left[first]) {
				first = i
			}
		}
		best = append(best, left[first])
		left = slices.Delete(left, first, first+1)
	}
	return best
}

// modelFixedCost looks at no order: the book that is asked for most often costs 1
// each time, the next one 2, and so on.
func modelFixedCost(s []int, asked []int) int {
	var times []int
	for _, book := range s {
		times = append(times, modelTimes(asked, book))
	}
	slices.Sort(times)
	cost := 0
	for i, count := range times {
		cost += count * (len(s) - i)
	}
	return cost
}

func modelFrontBound(s []int, asked []int) int {
	pairs := 0
	for i := range s {
		pairs += i
	}
	return 2*modelFixedCost(s, asked) + pairs
}

func modelCheapest(s []int, asked []int) (int, int) {
	var costs []int
	for _, rule := range modelRules() {
		costs = append(costs, modelCost(s, asked, rule))
	}
	least := slices.Min(costs)
	return slices.Index(costs, least), least
}

// modelLast puts the books in order by when they were asked for the last time.
func modelLast(s []int, asked []int) []int {
	last := slices.Clone(s)
	when := func(book int) int {
		latest := -1
		for i, x := range asked {
			if x == book {
				latest = i
			}
		}
		return latest
	}
	slices.SortStableFunc(last, func(a int, b int) int { return when(b) - when(a) })
	return last
}

// modelReached returns the shelves that lists of 0, 1, .., k books make of one.
func modelReached(s []int, k int, rule int) []map[modelKey]bool {
	reached := []map[modelKey]bool{{keyOf(s): true}}
	for i := range k {
		next := map[modelKey]bool{}
		for key := range reached[i] {
			for book := 1; book <= len(s); book++ {
				next[keyOf(modelLent(key[:len(s)], book, rule))] = true
			}
		}
		reached = append(reached, next)
	}
	return reached
}

// modelToReach tries for more and more books whether those of t that are behind
// them stand in this order in s.
func modelToReach(s []int, t []int) []int {
	for first := range t {
		end := t[first:]
		inOrder := slices.DeleteFunc(slices.Clone(s), func(x int) bool { return !slices.Contains(end, x) })
		if slices.Equal(inOrder, end) {
			asked := slices.Clone(t[:first])
			slices.Reverse(asked)
			return asked
		}
	}
	return nil
}

func modelPlanOfFront(s []int, asked []int) []int {
	var plan []int
	for _, book := range asked {
		place := modelPlace(s, book)
		if place > 2 {
			plan = append(plan, place-1)
		}
		if place > 1 {
			plan = append(plan, place)
		}
		s = modelLent(s, book, modelFront)
	}
	return plan
}
