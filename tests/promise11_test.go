package tests

import (
	"slices"
	"strings"
	"testing"

	"loop.example/g01221/impl"
)

// stackCalls are the calls of chapter 1.
func stackCalls() []namedCall {
	return []namedCall{
		{"IsStack", func(g given) []any { return []any{impl.IsStack(g.first)} }},
		{"IsSortedStack", func(g given) []any { a, ok := impl.IsSortedStack(g.first); return []any{a, ok} }},
		{"TurnStack", func(g given) []any { a, ok := impl.TurnStack(g.first, g.x); return []any{a, ok} }},
		{"IsPlan", func(g given) []any { return []any{impl.IsPlan(g.x, g.second)} }},
		{"PlayPlan", func(g given) []any { a, ok := impl.PlayPlan(g.first, g.second); return []any{a, ok} }},
		{"StacksAlong", func(g given) []any { a, ok := impl.StacksAlong(g.first, g.second); return []any{a, ok} }},
		{"SortsStack", func(g given) []any { a, ok := impl.SortsStack(g.first, g.second); return []any{a, ok} }},
		{"BackPlan", func(g given) []any { a, ok := impl.BackPlan(g.x, g.second); return []any{a, ok} }},
		{"ShortPlan", func(g given) []any { a, ok := impl.ShortPlan(g.x, g.second); return []any{a, ok} }},
		{"PlaceIn", func(g given) []any { a, ok := impl.PlaceIn(g.first, g.x); return []any{a, ok} }},
		{"TopTo", func(g given) []any { a, ok := impl.TopTo(g.first, g.x); return []any{a, ok} }},
		{"BringTo", func(g given) []any { a, ok := impl.BringTo(g.first, g.x, g.y); return []any{a, ok} }},
		{"ThenStack", func(g given) []any { a, ok := impl.ThenStack(g.first, g.second); return []any{a, ok} }},
		{"InverseStack", func(g given) []any { a, ok := impl.InverseStack(g.first); return []any{a, ok} }},
		{"BackStack", func(g given) []any { a, ok := impl.BackStack(g.first); return []any{a, ok} }},
		{"SwapSizes", func(g given) []any { a, ok := impl.SwapSizes(g.first); return []any{a, ok} }},
		{"StackOfPlan", func(g given) []any { a, ok := impl.StackOfPlan(g.x, g.second); return []any{a, ok} }},
		{"AreSamePlans", func(g given) []any { a, ok := impl.AreSamePlans(g.x, g.first, g.second); return []any{a, ok} }},
		{"StackText", func(g given) []any { a, ok := impl.StackText(g.first); return []any{a, ok} }},
		{"ParseStack", func(g given) []any { a, ok := impl.ParseStack(g.text); return []any{a, ok} }},
	}
}

// gapCalls are the calls of chapter 2 that take a stack.
func gapCalls() []namedCall {
	return []namedCall{
		{"GapsOf", func(g given) []any { a, ok := impl.GapsOf(g.first); return []any{a, ok} }},
		{"CountGaps", func(g given) []any { a, ok := impl.CountGaps(g.first); return []any{a, ok} }},
		{"LowerBound", func(g given) []any { a, ok := impl.LowerBound(g.first); return []any{a, ok} }},
		{"StripsOf", func(g given) []any { a, ok := impl.StripsOf(g.first); return []any{a, ok} }},
		{"GreedyPlan", func(g given) []any { a, ok := impl.GreedyPlan(g.first); return []any{a, ok} }},
		{"GreedyLength", func(g given) []any { a, ok := impl.GreedyLength(g.first); return []any{a, ok} }},
		{"GapTurns", func(g given) []any { a, ok := impl.GapTurns(g.first); return []any{a, ok} }},
		{"GapPlan", func(g given) []any { a, ok := impl.GapPlan(g.first); return []any{a, ok} }},
		{"IsWaste", func(g given) []any { a, ok := impl.IsWaste(g.first, g.x); return []any{a, ok} }},
		{"CountGoodPairs", func(g given) []any { a, ok := impl.CountGoodPairs(g.first); return []any{a, ok} }},
		{"GapsAlong", func(g given) []any { a, ok := impl.GapsAlong(g.first, g.second); return []any{a, ok} }},
		{"TwoTurnSorts", func(g given) []any { a, ok := impl.TwoTurnSorts(g.first); return []any{a, ok} }},
	}
}

// farCalls are the calls of chapter 3 that take a stack.
func farCalls() []namedCall {
	return []namedCall{
		{"StackDistance", func(g given) []any { a, ok := impl.StackDistance(g.first); return []any{a, ok} }},
		{"LeastPlan", func(g given) []any { a, ok := impl.LeastPlan(g.first); return []any{a, ok} }},
		{"CountLeastPlans", func(g given) []any { a, ok := impl.CountLeastPlans(g.first); return []any{a, ok} }},
		{"CloserTurns", func(g given) []any { a, ok := impl.CloserTurns(g.first); return []any{a, ok} }},
		{"DistanceBetween", func(g given) []any { a, ok := impl.DistanceBetween(g.first, g.second); return []any{a, ok} }},
		{"PlanBetween", func(g given) []any { a, ok := impl.PlanBetween(g.first, g.second); return []any{a, ok} }},
		{"GapExcess", func(g given) []any { a, ok := impl.GapExcess(g.first); return []any{a, ok} }},
		{"GreedyExcess", func(g given) []any { a, ok := impl.GreedyExcess(g.first); return []any{a, ok} }},
		{"IsLeastPlan", func(g given) []any { a, ok := impl.IsLeastPlan(g.first, g.second); return []any{a, ok} }},
		{"MiddleStacks", func(g given) []any { a, ok := impl.MiddleStacks(g.first, g.second); return []any{a, ok} }},
	}
}

// burntCalls are the calls of chapter 4 that take a list or a text.
func burntCalls() []namedCall {
	return []namedCall{
		{"IsBurnt", func(g given) []any { return []any{impl.IsBurnt(g.first)} }},
		{"TurnBurnt", func(g given) []any { a, ok := impl.TurnBurnt(g.first, g.x); return []any{a, ok} }},
		{"PlayBurnt", func(g given) []any { a, ok := impl.PlayBurnt(g.first, g.second); return []any{a, ok} }},
		{"IsBurntSorted", func(g given) []any { a, ok := impl.IsBurntSorted(g.first); return []any{a, ok} }},
		{"BurntGaps", func(g given) []any { a, ok := impl.BurntGaps(g.first); return []any{a, ok} }},
		{"BurntGreedy", func(g given) []any { a, ok := impl.BurntGreedy(g.first); return []any{a, ok} }},
		{"BurntDistance", func(g given) []any { a, ok := impl.BurntDistance(g.first); return []any{a, ok} }},
		{"LeastBurnt", func(g given) []any { a, ok := impl.LeastBurnt(g.first); return []any{a, ok} }},
		{"ForgetSides", func(g given) []any { a, ok := impl.ForgetSides(g.first); return []any{a, ok} }},
		{"DoubleStack", func(g given) []any { a, ok := impl.DoubleStack(g.first); return []any{a, ok} }},
		{"HalveStack", func(g given) []any { a, ok := impl.HalveStack(g.first); return []any{a, ok} }},
		{"BurntText", func(g given) []any { a, ok := impl.BurntText(g.first); return []any{a, ok} }},
		{"ParseBurnt", func(g given) []any { a, ok := impl.ParseBurnt(g.text); return []any{a, ok} }},
	}
}

// topCalls are the calls of chapter 5 that take a stack.
func topCalls() []namedCall {
	return []namedCall{
		{"TopStep", func(g given) []any { a, ok := impl.TopStep(g.first); return []any{a, ok} }},
		{"TopGame", func(g given) []any { a, ok := impl.TopGame(g.first); return []any{a, ok} }},
		{"TopSteps", func(g given) []any { a, ok := impl.TopSteps(g.first); return []any{a, ok} }},
		{"TopEnd", func(g given) []any { a, ok := impl.TopEnd(g.first); return []any{a, ok} }},
		{"StacksBefore", func(g given) []any { a, ok := impl.StacksBefore(g.first); return []any{a, ok} }},
		{"IsHome", func(g given) []any { a, ok := impl.IsHome(g.first); return []any{a, ok} }},
		{"TopsSeen", func(g given) []any { a, ok := impl.TopsSeen(g.first); return []any{a, ok} }},
		{"BottomGame", func(g given) []any { a, ok := impl.BottomGame(g.first); return []any{a, ok} }},
		{"CountGame", func(g given) []any { a, ok := impl.CountGame(g.first, g.x); return []any{a, ok} }},
		{"CardGame", func(g given) []any { a, b, ok := impl.CardGame(g.first, g.x); return []any{a, b, ok} }},
		{"TreeSize", func(g given) []any { a, ok := impl.TreeSize(g.first); return []any{a, ok} }},
		{"DepthBefore", func(g given) []any { a, ok := impl.DepthBefore(g.first); return []any{a, ok} }},
	}
}

func segmentIn(g given) impl.Segment { return impl.Segment{From: g.x, To: g.y} }

// segmentCalls are the calls of chapter 6 that take a stack, a plan or a segment.
func segmentCalls() []namedCall {
	return []namedCall{
		{"IsSegment", func(g given) []any { return []any{impl.IsSegment(len(g.first), segmentIn(g))} }},
		{"TurnSegment", func(g given) []any { a, ok := impl.TurnSegment(g.first, segmentIn(g)); return []any{a, ok} }},
		{"PlaySegments", func(g given) []any { a, ok := impl.PlaySegments(g.first, g.segments); return []any{a, ok} }},
		{"BreakPoints", func(g given) []any { a, ok := impl.BreakPoints(g.first); return []any{a, ok} }},
		{"SegmentBound", func(g given) []any { a, ok := impl.SegmentBound(g.first); return []any{a, ok} }},
		{"BestTurns", func(g given) []any { a, b, ok := impl.BestTurns(g.first); return []any{a, b, ok} }},
		{"GreedySegments", func(g given) []any { a, ok := impl.GreedySegments(g.first); return []any{a, ok} }},
		{"SelectionSegments", func(g given) []any { a, ok := impl.SelectionSegments(g.first); return []any{a, ok} }},
		{"SegmentDistance", func(g given) []any { a, ok := impl.SegmentDistance(g.first); return []any{a, ok} }},
		{"LeastSegments", func(g given) []any { a, ok := impl.LeastSegments(g.first); return []any{a, ok} }},
		{"CountLeastSegments", func(g given) []any { a, ok := impl.CountLeastSegments(g.first); return []any{a, ok} }},
		{"SegmentsOfPlan", func(g given) []any { a, ok := impl.SegmentsOfPlan(g.x, g.second); return []any{a, ok} }},
		{"IsFallingStrip", func(g given) []any { a, ok := impl.IsFallingStrip(g.first, segmentIn(g)); return []any{a, ok} }},
	}
}

func blockIn(g given) impl.Block { return blocksOf(g.places[:]...)[0] }

func exchangeIn(g given) impl.Exchange { return exchangesOf(g.places[:]...)[0] }

// blockCalls are the calls of chapter 7 that take a stack, a block move or an exchange.
func blockCalls() []namedCall {
	return []namedCall{
		{"IsBlock", func(g given) []any { return []any{impl.IsBlock(g.x, blockIn(g))} }},
		{"MoveBlock", func(g given) []any { a, ok := impl.MoveBlock(g.first, blockIn(g)); return []any{a, ok} }},
		{"BackBlock", func(g given) []any { a, ok := impl.BackBlock(blockIn(g)); return []any{a, ok} }},
		{"BlockBreaks", func(g given) []any { a, ok := impl.BlockBreaks(g.first); return []any{a, ok} }},
		{"BlockBound", func(g given) []any { a, ok := impl.BlockBound(g.first); return []any{a, ok} }},
		{"BlockDistance", func(g given) []any { a, ok := impl.BlockDistance(g.first); return []any{a, ok} }},
		{"LeastBlocks", func(g given) []any { a, ok := impl.LeastBlocks(g.first); return []any{a, ok} }},
		{"IsExchange", func(g given) []any { return []any{impl.IsExchange(g.x, exchangeIn(g))} }},
		{"ExchangeBlocks", func(g given) []any { a, ok := impl.ExchangeBlocks(g.first, exchangeIn(g)); return []any{a, ok} }},
		{"CyclesOfStack", func(g given) []any { a, ok := impl.CyclesOfStack(g.first); return []any{a, ok} }},
		{"CountCycles", func(g given) []any { a, ok := impl.CountCycles(g.first); return []any{a, ok} }},
		{"ExchangeDistance", func(g given) []any { a, ok := impl.ExchangeDistance(g.first); return []any{a, ok} }},
		{"ExchangesToSort", func(g given) []any { a, ok := impl.ExchangesToSort(g.first); return []any{a, ok} }},
		{"LeastExchanges", func(g given) []any { a, ok := impl.LeastExchanges(g.first); return []any{a, ok} }},
	}
}

func moveIn(g given) impl.Insertion { return impl.Insertion{From: g.x, To: g.y} }

// insertCalls are the calls of chapter 8 that take a stack, insertions, rows or a shape.
func insertCalls() []namedCall {
	return []namedCall{
		{"MoveOne", func(g given) []any { a, ok := impl.MoveOne(g.first, moveIn(g)); return []any{a, ok} }},
		{"PlayMoves", func(g given) []any { a, ok := impl.PlayMoves(g.first, g.moves); return []any{a, ok} }},
		{"LongestRising", func(g given) []any { a, ok := impl.LongestRising(g.first); return []any{a, ok} }},
		{"RisingLength", func(g given) []any { a, ok := impl.RisingLength(g.first); return []any{a, ok} }},
		{"FallingLength", func(g given) []any { a, ok := impl.FallingLength(g.first); return []any{a, ok} }},
		{"CountRising", func(g given) []any { a, ok := impl.CountRising(g.first); return []any{a, ok} }},
		{"LeastMoves", func(g given) []any { a, ok := impl.LeastMoves(g.first); return []any{a, ok} }},
		{"MovesToSort", func(g given) []any { a, ok := impl.MovesToSort(g.first); return []any{a, ok} }},
		{"PilesOf", func(g given) []any { a, ok := impl.PilesOf(g.first); return []any{a, ok} }},
		{"RowsOf", func(g given) []any { a, ok := impl.RowsOf(g.first); return []any{a, ok} }},
		{"PlacesOfRows", func(g given) []any { a, ok := impl.PlacesOfRows(g.first); return []any{a, ok} }},
		{"StackOfRows", func(g given) []any { a, ok := impl.StackOfRows(g.rows, g.boxes); return []any{a, ok} }},
		{"ShapeOf", func(g given) []any { a, ok := impl.ShapeOf(g.first); return []any{a, ok} }},
		{"CountTables", func(g given) []any { a, ok := impl.CountTables(g.first); return []any{a, ok} }},
		{"AreRows", func(g given) []any { return []any{impl.AreRows(g.rows)} }},
	}
}

// shelfCalls are the calls of chapter 9 that take a shelf.
func shelfCalls() []namedCall {
	return []namedCall{
		{"AreAsked", func(g given) []any { a, ok := impl.AreAsked(g.first, g.second); return []any{a, ok} }},
		{"ShelfAfter", func(g given) []any { a, ok := impl.ShelfAfter(g.first, g.second, g.x); return []any{a, ok} }},
		{"PlacesAsked", func(g given) []any { a, ok := impl.PlacesAsked(g.first, g.second, g.x); return []any{a, ok} }},
		{"ShelfCost", func(g given) []any { a, ok := impl.ShelfCost(g.first, g.second, g.x); return []any{a, ok} }},
		{"AskedByPlaces", func(g given) []any { a, ok := impl.AskedByPlaces(g.first, g.second, g.x); return []any{a, ok} }},
		{"BestFixed", func(g given) []any { a, ok := impl.BestFixed(g.first, g.second); return []any{a, ok} }},
		{"FixedCost", func(g given) []any { a, ok := impl.FixedCost(g.first, g.second); return []any{a, ok} }},
		{"FrontBound", func(g given) []any { a, ok := impl.FrontBound(g.first, g.second); return []any{a, ok} }},
		{"CheapestRule", func(g given) []any { a, b, ok := impl.CheapestRule(g.first, g.second); return []any{a, b, ok} }},
		{"LastAsked", func(g given) []any { a, ok := impl.LastAsked(g.first, g.second); return []any{a, ok} }},
		{"AskedToReach", func(g given) []any { a, ok := impl.AskedToReach(g.first, g.second); return []any{a, ok} }},
		{"WorstAsked", func(g given) []any { a, b, ok := impl.WorstAsked(g.first, g.y, g.x); return []any{a, b, ok} }},
		{"PlanOfFront", func(g given) []any { a, ok := impl.PlanOfFront(g.first, g.second); return []any{a, ok} }},
	}
}

func deskIn(g given) impl.Desk { return impl.Desk{Stack: g.first, Made: g.x} }

// consoleCalls are the calls of chapter 10.
func consoleCalls() []namedCall {
	return []namedCall{
		{"FirstDesk", func(g given) []any { return []any{impl.FirstDesk(), true} }},
		{"IsDesk", func(g given) []any { return []any{impl.IsDesk(deskIn(g))} }},
		{"DeskLine", func(g given) []any { a, b, ok := impl.DeskLine(deskIn(g), g.text); return []any{a, b, ok} }},
		{"RunScript", func(g given) []any { a, ok := impl.RunScript(g.text); return []any{a, ok} }},
		{"DeskAfter", func(g given) []any { a, ok := impl.DeskAfter(g.text); return []any{a, ok} }},
		{"FailedLines", func(g given) []any { a, ok := impl.FailedLines(g.text); return []any{a, ok} }},
	}
}

// numberCalls are the calls that take numbers alone, and search for long.
func numberCalls() []namedCall {
	return []namedCall{
		{"CountNoPairs", func(g given) []any { a, ok := impl.CountNoPairs(g.x); return []any{a, ok} }},
		{"FirstNoPair", func(g given) []any { a, ok := impl.FirstNoPair(g.x); return []any{a, ok} }},
		{"MostByGreedy", func(g given) []any { a, b, ok := impl.MostByGreedy(g.x); return []any{a, b, ok} }},
		{"CountByTurns", func(g given) []any { a, ok := impl.CountByTurns(g.x); return []any{a, ok} }},
		{"WorstDistance", func(g given) []any { a, ok := impl.WorstDistance(g.x); return []any{a, ok} }},
		{"WorstStacks", func(g given) []any { a, ok := impl.WorstStacks(g.x); return []any{a, ok} }},
		{"CountClosedPlans", func(g given) []any { a, ok := impl.CountClosedPlans(g.x, g.y); return []any{a, ok} }},
		{"CountBurntBy", func(g given) []any { a, ok := impl.CountBurntBy(g.x); return []any{a, ok} }},
		{"WorstBurnt", func(g given) []any { a, ok := impl.WorstBurnt(g.x); return []any{a, ok} }},
		{"AllBurnt", func(g given) []any { a, ok := impl.AllBurnt(g.x); return []any{a, ok} }},
		{"LongestTop", func(g given) []any { a, b, ok := impl.LongestTop(g.x); return []any{a, b, ok} }},
		{"CountLongest", func(g given) []any { a, ok := impl.CountLongest(g.x); return []any{a, ok} }},
		{"CountBySteps", func(g given) []any { a, ok := impl.CountBySteps(g.x); return []any{a, ok} }},
		{"CountByDistance", func(g given) []any { a, ok := impl.CountByDistance(g.x); return []any{a, ok} }},
		{"FarthestStacks", func(g given) []any { a, ok := impl.FarthestStacks(g.x); return []any{a, ok} }},
		{"CountByBlocks", func(g given) []any { a, ok := impl.CountByBlocks(g.x); return []any{a, ok} }},
		{"CountByExchanges", func(g given) []any { a, ok := impl.CountByExchanges(g.x); return []any{a, ok} }},
		{"CountByRising", func(g given) []any { a, ok := impl.CountByRising(g.x); return []any{a, ok} }},
		{"CountReached", func(g given) []any { a, ok := impl.CountReached(g.x, g.y, g.places[0]); return []any{a, ok} }},
	}
}

// listCalls are the calls that take lists, texts, segments, insertions, rows, places, rules or desks.
func listCalls() []namedCall {
	return slices.Concat(stackCalls(), gapCalls(), farCalls(), burntCalls(), topCalls(), segmentCalls(), blockCalls(), insertCalls(), shelfCalls(), consoleCalls())
}

// givenForMemory are arguments that calls of lists take, and some that they do not.
func givenForMemory() []given {
	var all []given
	for _, s := range someStacks() {
		n := len(s)
		text := ""
		for _, size := range s {
			text += string("0123456789"[size])
		}
		all = append(all,
			given{first: s, second: modelTurn(s, n), x: n, y: 1, text: text},
			given{first: s, segments: climbingSegments(n, modelMaxPlan), places: [4]int{1, 1, n, n}, x: 1, y: n, text: text},
			given{first: climbing(n, modelMaxPlan), second: climbing(n, modelMaxPlan), x: n, y: n},
			given{first: s, second: climbing(n, modelMaxPlan), segments: climbingSegments(n, 3), places: [4]int{1, n - 1, n, n}, x: n, y: n, text: text},
			given{first: s, second: repeated(n, modelMaxPlan), segments: segmentsOf(1, n), places: [4]int{1, 2, n - 1, n}, x: (n + 1) / 2, y: n, text: text},
			given{first: s, second: []int{n, 1, n, n, 1}, segments: segmentsOf(1, n, n, 1), places: [4]int{n, n, 1, 1}, x: n, y: n, text: text},
			given{first: s, second: repeated(n, modelMaxPlan+1), segments: climbingSegments(n, modelMaxPlan+1), places: [4]int{1, 1, n + 1, n + 1}, x: n + 1, y: 1, text: text + "1"},
		)
	}
	for _, s := range someBurnts() {
		n := len(s)
		text := modelBurntText(s)
		all = append(all,
			given{first: s, second: modelDouble(s), x: n, y: 1, text: text},
			given{first: modelDouble(s), second: climbing(n, modelMaxPlan), x: 1, y: n, text: text + "-"},
			given{first: s, second: climbing(n, modelMaxPlan), x: (n + 1) / 2, y: n, text: text},
			given{first: s, second: repeated(n, modelMaxPlan+1), x: n + 1, y: 1, text: "-" + text},
		)
	}
	for _, s := range noStacks() {
		all = append(all,
			given{first: s, second: s, segments: segmentsOf(1, 2), places: [4]int{1, 1, 2, 2}, x: len(s), y: 1, text: "x"},
			given{first: modelSorted(9), second: s, segments: segmentsOf(s...), x: 9, y: 9},
			given{first: s, second: modelSorted(9), x: 9},
		)
	}
	return all
}

// givenForInsertions are the same for chapter 8.
func givenForInsertions() []given {
	var all []given
	for _, s := range someStacks() {
		n := len(s)
		climbs := againAndAgain(modelInsertions(n), modelMaxPlan+1)
		rows, places := modelRows(s), modelPlaces(s)
		all = append(all,
			given{first: s, moves: climbs[:modelMaxPlan], rows: rows, boxes: places, x: 1, y: n},
			given{first: s, moves: climbs, rows: places, boxes: rows, x: n, y: (n + 1) / 2},
			given{first: modelLengths(rows), moves: movesOf(1, n), rows: rows, boxes: modelColumns(rows), x: 1, y: 1},
			given{first: s, moves: movesOf(n, 1, 1, 1), rows: modelPiles(s), boxes: modelPiles(s), x: n, y: n},
		)
	}
	for _, s := range noStacks() {
		all = append(all, given{first: s, moves: movesOf(s...), rows: [][]int{s}, boxes: [][]int{s, s}})
	}
	for _, rows := range noRows() {
		all = append(all, given{first: modelLengths(rows), rows: rows, boxes: rows})
	}
	return all
}

// givenForShelves are the same for chapter 9: x is the rule, and y how many books are asked for.
func givenForShelves() []given {
	var all []given
	for _, s := range shelvesForAsking() {
		n := len(s)
		for _, rule := range append(modelRules(), modelStay+1) {
			all = append(all,
				given{first: s, second: climbing(n, modelMaxAsked), x: rule, y: modelMaxAsked},
				given{first: s, second: climbing(n, modelMaxAsked+1), x: rule, y: modelMaxAsked + 1},
				given{first: s, second: modelTurn(s, n), x: rule, y: n},
				given{first: s, second: climbing(n, modelMaxPlan/2), x: rule, y: 1},
				given{first: s, x: rule},
			)
		}
	}
	for _, s := range noStacks() {
		all = append(all, given{first: s, second: s}, given{first: modelSorted(9), second: s, y: -1})
	}
	return all
}

// givenForConsole are the same for chapter 10: lines for desks with x turns made, and scripts.
func givenForConsole() []given {
	var all []given
	lines := slices.Concat(plainWords(), linesForScripts(), []string{"", "turn 0", "front 1", "show\n", strings.Repeat("x", modelMaxScript+1)})
	for i, s := range shelvesForAsking() {
		for _, line := range lines {
			all = append(all, given{first: s, x: []int{0, modelMaxMade, modelMaxMade + 1}[i%3], text: line})
		}
	}
	for from := range linesForScripts() {
		script := scriptOf(linesForScripts()[from:]...)
		all = append(all, given{first: modelSorted(3), text: script}, given{text: strings.Repeat(script, 10)}, given{text: script[:len(script)-1]})
	}
	for _, s := range noStacks() {
		all = append(all, given{first: s, text: "show"}, given{first: s, text: "stack 312"}, given{first: s, x: -1, text: "fly"})
	}
	return all
}

func TestArgumentsStayAsTheyWere(t *testing.T) {
	for _, c := range listCalls() {
		for _, g := range givenForMemory() {
			checkMemory(t, c, g)
		}
	}
	for _, c := range insertCalls() {
		for _, g := range givenForInsertions() {
			checkMemory(t, c, g)
		}
	}
	for _, c := range shelfCalls() {
		for _, g := range givenForShelves() {
			checkMemory(t, c, g)
		}
	}
	for _, c := range consoleCalls() {
		for _, g := range givenForConsole() {
			checkMemory(t, c, g)
		}
	}
	for _, c := range numberCalls() {
		for _, x := range someNumbers() {
			checkMemory(t, c, given{x: x, y: modelMaxClosed})
		}
	}
}

// anyLists are lists of all kinds: stacks, burnt stacks, plans and neither.
func anyLists() [][]int {
	lists := append(noStacks(), allStacks(3)...)
	lists = append(lists, []int{-1, -2}, []int{3, -1, 2}, modelDouble([]int{2, -1}), withSides(modelSorted(9), -1), []int{1, -1}, []int{1, minInt})
	lists = append(lists, modelSorted(1), modelSorted(9), modelTurn(modelSorted(9), 9), []int{minInt, maxInt, 0})
	lists = append(lists, repeated(1, modelMaxPlan), repeated(1, modelMaxPlan+1), climbing(9, modelMaxPlan), repeated(9, 100000), repeated(minInt, 3))
	return lists
}

func TestCallsAcceptAllArguments(t *testing.T) {
	lists := anyLists()
	segments := make([][]impl.Segment, len(lists))
	moves := make([][]impl.Insertion, len(lists))
	for i, places := range lists {
		segments[i], moves[i] = segmentsOf(places...), movesOf(places...)
	}
	numbers := []int{minInt, -1, 0, 1, 2, 3, 9, 10, 1 << 32, maxInt}
	texts := []string{"", "1", "312", "0", "x", "\x00", "\xff\xfe", "123456789", "1234567890", strings.Repeat("9", 100000), "-", "-1", "3-1-2", "--1", "1-", strings.Repeat("-", 100000), strings.Repeat("-9", 9)}
	for _, c := range listCalls() {
		for _, first := range lists {
			for j, second := range lists {
				for i, x := range numbers {
					y := numbers[(i*3+len(first))%len(numbers)]
					places := [4]int{x, y, numbers[(i+j)%len(numbers)], numbers[(i*7+j)%len(numbers)]}
					text := texts[(i+len(second))%len(texts)]
					checkFailure(t, c, given{first, second, segments[j], moves[j], [][]int{first, second}, [][]int{second}, places, x, y, text})
				}
			}
		}
	}
	for _, c := range numberCalls() {
		for _, x := range append(someNumbers(), numbers...) {
			checkFailure(t, c, given{x: x, y: modelMaxClosed})
			checkFailure(t, c, given{x: min(max(x, 1), modelMaxSearch), y: x})
			checkFailure(t, c, given{x: 3, y: 2, places: [4]int{x}})
		}
	}
	tables := slices.Concat(noRows(), someRows())
	for _, c := range insertCalls() {
		for _, rows := range tables {
			for _, boxes := range tables {
				checkFailure(t, c, given{first: modelLengths(rows), rows: rows, boxes: boxes})
			}
		}
	}
	for _, c := range consoleCalls() {
		for _, first := range lists {
			for _, text := range textsForConsole(texts) {
				for _, x := range append(numbers, modelMaxMade, modelMaxMade+1) {
					checkFailure(t, c, given{first: first, x: x, text: text})
				}
			}
		}
	}
}

// textsForConsole returns other texts, some of them as lines of scripts and behind
// the words of lines, too.
func textsForConsole(others []string) []string {
	all := slices.Concat(others, plainWords(), linesForScripts())
	for _, text := range others {
		all = append(all, text+"\n", scriptOf("show", text, "made"))
		for _, word := range []string{"stack ", "turn ", "play ", "move 1 ", "front ", "burnt ", "cost ", "fly "} {
			all = append(all, word+text)
		}
	}
	return append(all, "\n", "\n\n", "show\nshow", strings.Repeat("\n", modelMaxLines+1), strings.Repeat("\n", 100000))
}
