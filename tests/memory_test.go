package tests

import (
	"reflect"
	"slices"
	"strconv"
	"testing"

	"loop.example/g01221/impl"
)

// given is what a call may be given: each call takes of it what it needs.
type given struct {
	first, second []int
	segments      []impl.Segment
	moves         []impl.Insertion
	rows, boxes   [][]int
	places        [4]int
	x, y          int
	text          string
}

type namedCall struct {
	name string
	run  func(g given) []any
}

func (g given) copied() given {
	g.first, g.second = slices.Clone(g.first), slices.Clone(g.second)
	g.segments, g.moves = slices.Clone(g.segments), slices.Clone(g.moves)
	g.rows, g.boxes = slices.Clip(withRooms(g.rows, nil)), slices.Clip(withRooms(g.boxes, nil))
	return g
}

// behind are the numbers in the spare capacity behind each list that is given.
// They go on with what a list may hold, so that a program that reads them is found out.
var behind = [2][]int{{1, 2, 3, 4}, {4, 3, 77, -1}}

// withRoom returns a list in new memory with others behind its end.
func withRoom[T any](list []T, behind []T) []T {
	return slices.Concat(list, behind)[:len(list)]
}

// withRooms does so with lists and with each of them.
func withRooms(lists [][]int, behind []int) [][]int {
	var all [][]int
	for _, list := range lists {
		all = append(all, withRoom(list, behind))
	}
	return withRoom(all, [][]int{slices.Clone(behind)})
}

// withSpare returns the same with numbers behind the end of each list.
func (g given) withSpare(spare []int) given {
	g.first, g.second = withRoom(g.first, spare), withRoom(g.second, spare)
	g.segments = withRoom(g.segments, segmentsOf(spare...))
	g.moves = withRoom(g.moves, movesOf(spare...))
	g.rows, g.boxes = withRooms(g.rows, spare), withRooms(g.boxes, spare)
	return g
}

// memory returns the lengths of the lists, and all numbers in them and in their room.
func (g given) memory() []int {
	var all []int
	for _, list := range []any{g.first, g.second, g.segments, g.moves, g.rows, g.boxes} {
		all = withMemory(all, reflect.ValueOf(list))
	}
	return all
}

func withMemory(all []int, v reflect.Value) []int {
	switch v.Kind() {
	case reflect.Slice:
		all = append(all, v.Len())
		whole := v.Slice(0, v.Cap())
		for i := range whole.Len() {
			all = withMemory(all, whole.Index(i))
		}
	case reflect.Struct:
		for i := range v.NumField() {
			all = withMemory(all, v.Field(i))
		}
	default:
		all = append(all, int(v.Int()))
	}
	return all
}

// checkMemory makes a call on lists with spare capacity, overwrites all that
// it returns, and looks whether the lists, their spare capacity or later
// results are changed by this.
func checkMemory(t *testing.T, c namedCall, g given) {
	t.Helper()
	want := copied(c.run(g.copied()))
	for _, spare := range behind {
		roomy := g.withSpare(spare)
		before := roomy.memory()
		got := c.run(roomy)
		if !sameResults(got, want) {
			t.Errorf("%s of %v is %v with %v behind its lists, but %v without", c.name, g, got, spare, want)
		}
		overwrite(t, c.name, got)
		if !slices.Equal(roomy.memory(), before) {
			t.Errorf("%s of %v changes its arguments, or its results share their memory", c.name, g)
		}
		if again := c.run(roomy); !sameResults(again, want) {
			t.Errorf("%s of %v is %v when it is called again, not %v", c.name, g, again, want)
		}
	}
}

func copied(results []any) []any {
	var out []any
	for _, r := range results {
		out = append(out, copiedValue(reflect.ValueOf(r)).Interface())
	}
	return out
}

func copiedValue(v reflect.Value) reflect.Value {
	switch v.Kind() {
	case reflect.Slice:
		out := reflect.MakeSlice(v.Type(), v.Len(), v.Len())
		for i := range v.Len() {
			out.Index(i).Set(copiedValue(v.Index(i)))
		}
		return out
	case reflect.Struct:
		out := reflect.New(v.Type()).Elem()
		for i := range v.NumField() {
			out.Field(i).Set(copiedValue(v.Field(i)))
		}
		return out
	}
	return v
}

// sameResults takes nil and empty lists as the same.
func sameResults(a []any, b []any) bool {
	return slices.EqualFunc(a, b, func(x any, y any) bool {
		return sameValues(reflect.ValueOf(x), reflect.ValueOf(y))
	})
}

func sameValues(a reflect.Value, b reflect.Value) bool {
	if a.Type() != b.Type() {
		return false
	}
	same := true
	switch a.Kind() {
	case reflect.Slice:
		same = a.Len() == b.Len()
		for i := 0; same && i < a.Len(); i++ {
			same = sameValues(a.Index(i), b.Index(i))
		}
	case reflect.Struct:
		for i := 0; same && i < a.NumField(); i++ {
			same = sameValues(a.Field(i), b.Field(i))
		}
	default:
		same = a.Equal(b)
	}
	return same
}

// elementsIn returns the numbers and texts of each list of a result, be it in a
// desk, with those in the structs of a list and those in its spare capacity.
func elementsIn(v reflect.Value) [][]reflect.Value {
	var lists [][]reflect.Value
	switch v.Kind() {
	case reflect.Struct:
		for i := range v.NumField() {
			lists = append(lists, elementsIn(v.Field(i))...)
		}
	case reflect.Slice:
		var elements []reflect.Value
		whole := v.Slice(0, v.Cap())
		for i := range whole.Len() {
			switch x := whole.Index(i); x.Kind() {
			case reflect.Slice:
				lists = append(lists, elementsIn(x)...)
			case reflect.Struct:
				for j := range x.NumField() {
					elements = append(elements, x.Field(j))
				}
			default:
				elements = append(elements, x)
			}
		}
		lists = append(lists, elements)
	}
	return lists
}

// markFor returns what elements of the list with a number are overwritten with.
func markFor(x reflect.Value, list int) reflect.Value {
	if x.Kind() == reflect.String {
		return reflect.ValueOf("list " + strconv.Itoa(list))
	}
	return reflect.ValueOf(-1000 - list)
}

// overwrite fills all lists of the results, with their spare capacity, each
// with a mark of its own, which must still be there when all are filled.
func overwrite(t *testing.T, name string, results []any) {
	t.Helper()
	var lists [][]reflect.Value
	for _, r := range results {
		lists = append(lists, elementsIn(reflect.ValueOf(r))...)
	}
	for i, list := range lists {
		for _, x := range list {
			x.Set(markFor(x, i))
		}
	}
	for i, list := range lists {
		if slices.ContainsFunc(list, func(x reflect.Value) bool { return !x.Equal(markFor(x, i)) }) {
			t.Errorf("%s returns slices that share memory", name)
		}
	}
}

// checkFailure looks whether a call whose last result is false has no other results.
func checkFailure(t *testing.T, c namedCall, g given) {
	t.Helper()
	results := c.run(g)
	if ok := results[len(results)-1].(bool); ok || len(results) == 1 {
		return
	}
	for _, r := range results[:len(results)-1] {
		v := reflect.ValueOf(r)
		if v.Kind() == reflect.Slice && v.Len() > 0 || v.Kind() != reflect.Slice && !v.IsZero() {
			t.Errorf("%s of %v fails but returns %v", c.name, g, results)
		}
	}
}
