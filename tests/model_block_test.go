package tests

import (
	"slices"

	"loop.example/g01221/impl"
)

// The model of chapter 7, said again without the program, as model_test.go does
// for chapter 1: of the program it has the types of block moves and exchanges alone.

const modelMaxBlocks = 6

// blocksOf returns the block moves with these places, From, Middle and To of each of them in turn.
func blocksOf(places ...int) []impl.Block {
	var blocks []impl.Block
	for i := 2; i < len(places); i += 3 {
		blocks = append(blocks, impl.Block{From: places[i-2], Middle: places[i-1], To: places[i]})
	}
	return blocks
}

// exchangesOf returns the exchanges with these places, all four of each of them in turn.
func exchangesOf(places ...int) []impl.Exchange {
	var exchanges []impl.Exchange
	for i := 3; i < len(places); i += 4 {
		exchanges = append(exchanges, impl.Exchange{First: places[i-3], Second: places[i-2], Third: places[i-1], Last: places[i]})
	}
	return exchanges
}

func modelIsBlock(n int, b impl.Block) bool {
	return isIn(n, modelMaxStack) && isIn(b.From, n) && isIn(b.Middle, n) && isIn(b.To, n) && b.From <= b.Middle && b.Middle < b.To
}

func modelIsExchange(n int, e impl.Exchange) bool {
	return isIn(n, modelMaxStack) && isIn(e.First, n) && isIn(e.Second, n) && isIn(e.Third, n) && isIn(e.Last, n) &&
		e.First <= e.Second && e.Second < e.Third && e.Third <= e.Last
}

// placesFor returns, in order, all lists of so many places for n.
func placesFor(n int, length int) [][]int {
	return slices.DeleteFunc(allPlans(n, length), func(places []int) bool { return len(places) < length })
}

// modelBlocks returns all block moves for n in their order.
func modelBlocks(n int) []impl.Block {
	all := blocksOf(slices.Concat(placesFor(n, 3)...)...)
	return slices.DeleteFunc(all, func(b impl.Block) bool { return !modelIsBlock(n, b) })
}

// modelExchanges returns all exchanges for n in their order.
func modelExchanges(n int) []impl.Exchange {
	all := exchangesOf(slices.Concat(placesFor(n, 4)...)...)
	return slices.DeleteFunc(all, func(e impl.Exchange) bool { return !modelIsExchange(n, e) })
}

// modelParts returns parts of a stack below each other, each told by its first and its last place.
func modelParts(s []int, places ...int) []int {
	var parts []int
	for i := 1; i < len(places); i += 2 {
		for place := places[i-1]; place <= places[i]; place++ {
			parts = append(parts, s[place-1])
		}
	}
	return parts
}

func modelMoveBlock(s []int, b impl.Block) []int {
	return modelParts(s, 1, b.From-1, b.Middle+1, b.To, b.From, b.Middle, b.To+1, len(s))
}

func modelExchange(s []int, e impl.Exchange) []int {
	return modelParts(s, 1, e.First-1, e.Third, e.Last, e.Second+1, e.Third-1, e.First, e.Second, e.Last+1, len(s))
}

// A modelMove returns what a move, which is a block move or an exchange, makes of a stack.
type modelMove[T any] func(s []int, move T) []int

func modelMoved[T any](do modelMove[T], s []int, list []T) []int {
	for _, move := range list {
		s = do(s, move)
	}
	return s
}

// modelMoveDistances returns, for all stacks of n pancakes, the least numbers of
// moves that sort them: from the sorted stack on, as they are undone.
func modelMoveDistances[T any](do modelMove[T], n int, moves []T) map[modelKey]int {
	return modelDistancesAlong(modelSorted(n), func(s []int) [][]int {
		var moved [][]int
		for _, move := range moves {
			moved = append(moved, do(s, move))
		}
		return moved
	})
}

// modelFirstList returns the first one of the shortest lists of moves that sort a stack.
func modelFirstList[T any](do modelMove[T], s []int, moves []T, distances map[modelKey]int) []T {
	var list []T
	for distances[keyOf(s)] > 0 {
		i := slices.IndexFunc(moves, func(move T) bool { return distances[keyOf(do(s, move))] < distances[keyOf(s)] })
		list = append(list, moves[i])
		s = do(s, moves[i])
	}
	return list
}

// modelFirstSorting returns, of lists of moves with the shortest first, the first one that sorts a stack.
func modelFirstSorting[T any](do modelMove[T], s []int, lists [][]T) []T {
	return lists[slices.IndexFunc(lists, func(list []T) bool { return slices.IsSorted(modelMoved(do, s, list)) })]
}

func modelBlockBreaks(s []int) []int {
	var breaks []int
	whole := slices.Concat([]int{0}, s, []int{len(s) + 1})
	for i := range len(s) + 1 {
		if whole[i+1] != whole[i]+1 {
			breaks = append(breaks, i)
		}
	}
	return breaks
}

func modelNumberBefore(s []int, x int) int {
	whole := slices.Concat([]int{0}, s, []int{len(s) + 1})
	return whole[slices.Index(whole, x)-1]
}

// modelCycles walks from each number until it comes again, and keeps the walks from the least ones.
func modelCycles(s []int) [][]int {
	var cycles [][]int
	for least := range len(s) + 1 {
		cycle := []int{least}
		for x := modelNumberBefore(s, least+1); x != least; x = modelNumberBefore(s, x+1) {
			cycle = append(cycle, x)
		}
		if slices.Min(cycle) == least {
			cycles = append(cycles, cycle)
		}
	}
	return cycles
}

// modelExchangesToSort is given all exchanges for the pancakes of a stack.
func modelExchangesToSort(s []int, all []impl.Exchange) []impl.Exchange {
	var list []impl.Exchange
	for !slices.IsSorted(s) {
		cycles := len(modelCycles(s))
		i := slices.IndexFunc(all, func(e impl.Exchange) bool { return len(modelCycles(modelExchange(s, e))) == cycles+2 })
		list = append(list, all[i])
		s = modelExchange(s, all[i])
	}
	return list
}
