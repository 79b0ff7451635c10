package tests

import (
	"slices"

	"loop.example/g01221/impl"
)

// The model of chapter 8, said again without the program, as model_test.go does
// for chapter 1: of the program it has the type of insertions alone.

const modelMaxByRising = 7

// movesOf returns the insertions with these places, From and To of each of them in turn.
func movesOf(places ...int) []impl.Insertion {
	var moves []impl.Insertion
	for i := 1; i < len(places); i += 2 {
		moves = append(moves, impl.Insertion{From: places[i-1], To: places[i]})
	}
	return moves
}

func modelIsMove(n int, m impl.Insertion) bool {
	return isIn(n, modelMaxStack) && isIn(m.From, n) && isIn(m.To, n)
}

// modelInsertions returns all insertions for n, those that leave a pancake where it is with them.
func modelInsertions(n int) []impl.Insertion {
	return movesOf(slices.Concat(placesFor(n, 2)...)...)
}

func modelMoveOne(s []int, m impl.Insertion) []int {
	rest := slices.Concat(s[:m.From-1], s[m.From:])
	return slices.Concat(rest[:m.To-1], []int{s[m.From-1]}, rest[m.To-1:])
}

func modelArePlayedMoves(s []int, moves []impl.Insertion) bool {
	return modelIsStack(s) && len(moves) <= modelMaxPlan &&
		!slices.ContainsFunc(moves, func(m impl.Insertion) bool { return !modelIsMove(len(s), m) })
}

func rises(above int, below int) bool { return above < below }

func falls(above int, below int) bool { return above > below }

// modelLongestParts looks through all choices of pancakes. It returns, in order,
// the longest ones of which each size is followed as it may be.
func modelLongestParts(s []int, follows func(above int, below int) bool) [][]int {
	var longest [][]int
	for chosen := 1; chosen < 1<<len(s); chosen++ {
		var part []int
		for i, size := range s {
			if chosen>>i&1 == 1 {
				part = append(part, size)
			}
		}
		if !modelFollow(part, follows) || longest != nil && len(part) < len(longest[0]) {
			continue
		}
		if longest != nil && len(part) > len(longest[0]) {
			longest = nil
		}
		longest = append(longest, part)
	}
	slices.SortFunc(longest, slices.Compare[[]int])
	return longest
}

func modelFollow(part []int, follows func(above int, below int) bool) bool {
	for i := 1; i < len(part); i++ {
		if !follows(part[i-1], part[i]) {
			return false
		}
	}
	return true
}

// modelMovesToSort tries, for each size that is to be moved, all places for it.
func modelMovesToSort(s []int) []impl.Insertion {
	var moves []impl.Insertion
	rising := modelLongestParts(s, rises)[0]
	for size := 1; size <= len(s); size++ {
		if slices.Contains(rising, size) {
			continue
		}
		for place := 1; place <= len(s); place++ {
			m := impl.Insertion{From: modelPlace(s, size), To: place}
			moved := modelMoveOne(s, m)
			if size == 1 && place == 1 || size > 1 && place > 1 && moved[place-2] == size-1 {
				moves = append(moves, m)
				s = moved
				break
			}
		}
	}
	return moves
}

func modelPiles(s []int) [][]int {
	var piles [][]int
next:
	for _, size := range s {
		for i, pile := range piles {
			if pile[len(pile)-1] > size {
				piles[i] = append(pile, size)
				continue next
			}
		}
		piles = append(piles, []int{size})
	}
	return piles
}

// modelPutIn puts a size into rows, and what it puts out of the first one into the others.
func modelPutIn(rows [][]int, size int) [][]int {
	if len(rows) == 0 {
		return [][]int{{size}}
	}
	greater := slices.DeleteFunc(slices.Clone(rows[0]), func(x int) bool { return x < size })
	if len(greater) == 0 {
		return slices.Concat([][]int{slices.Concat(rows[0], []int{size})}, rows[1:])
	}
	first := slices.Clone(rows[0])
	least := slices.Min(greater)
	first[slices.Index(first, least)] = size
	return slices.Concat([][]int{first}, modelPutIn(rows[1:], least))
}

func modelRows(s []int) [][]int {
	var rows [][]int
	for _, size := range s {
		rows = modelPutIn(rows, size)
	}
	return rows
}

func modelLengths(rows [][]int) []int {
	var lengths []int
	for _, boxes := range rows {
		lengths = append(lengths, len(boxes))
	}
	return lengths
}

// modelPlaces looks, for each pancake, which row it has made longer.
func modelPlaces(s []int) [][]int {
	var places [][]int
	for i := range s {
		lengths := modelLengths(modelRows(s[:i+1]))
		if len(lengths) > len(places) {
			places = append(places, nil)
		}
		for j, length := range lengths {
			if length > len(places[j]) {
				places[j] = append(places[j], i+1)
			}
		}
	}
	return places
}

func modelIsShape(lengths []int) bool {
	boxes := 0
	for i, length := range lengths {
		if !isIn(length, modelMaxStack) || i > 0 && length > lengths[i-1] {
			return false
		}
		boxes += length
	}
	return isIn(boxes, modelMaxStack)
}

func modelAreRows(rows [][]int) bool {
	if !modelIsShape(modelLengths(rows)) || !modelIsStack(slices.Concat(rows...)) {
		return false
	}
	columns := modelColumns(rows)
	return !slices.ContainsFunc(slices.Concat(rows, columns), func(line []int) bool { return !slices.IsSorted(line) })
}

// modelColumns returns the columns of rows that have a shape.
func modelColumns(rows [][]int) [][]int {
	var columns [][]int
	for j := range rows[0] {
		var column []int
		for _, boxes := range rows {
			if j < len(boxes) {
				column = append(column, boxes[j])
			}
		}
		columns = append(columns, column)
	}
	return columns
}

// modelCut returns rows of these lengths, of which a list has the numbers.
func modelCut(numbers []int, lengths []int) [][]int {
	var rows [][]int
	for _, length := range lengths {
		rows = append(rows, slices.Clone(numbers[:length]))
		numbers = numbers[length:]
	}
	return rows
}

// modelShapes returns all shapes of n boxes.
func modelShapes(n int) [][]int {
	var shapes [][]int
	var grow func(shape []int, left int)
	grow = func(shape []int, left int) {
		if left == 0 {
			shapes = append(shapes, shape)
		}
		for length := 1; length <= left; length++ {
			if longer := slices.Concat(shape, []int{length}); modelIsShape(longer) {
				grow(longer, left-length)
			}
		}
	}
	grow(nil, n)
	return shapes
}

// modelTables returns all tables of a shape of n boxes, of all lists of their numbers.
func modelTables(shape []int, n int) [][][]int {
	var tables [][][]int
	for _, s := range allStacks(n) {
		if rows := modelCut(s, shape); modelAreRows(rows) {
			tables = append(tables, rows)
		}
	}
	return tables
}

// modelCountTables divides the number of all lists by the hooks: for each box,
// how many boxes are right of it and below it, with itself.
func modelCountTables(shape []int) int {
	lists, hooks, boxes := 1, 1, 0
	for i, length := range shape {
		for j := range length {
			boxes++
			lists *= boxes
			hook := length - j
			for _, below := range shape[i+1:] {
				if below > j {
					hook++
				}
			}
			hooks *= hook
		}
	}
	return lists / hooks
}
