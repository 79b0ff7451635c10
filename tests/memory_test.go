package tests

import (
	"reflect"
	"slices"
	"testing"
)

// given is what a call may be given: each call takes of it what it needs.
type given struct {
	first, second []int
	x, y          int
	text          string
}

type namedCall struct {
	name string
	run  func(g given) []any
}

// behind are the numbers in the spare capacity behind each list that is given.
// They go on with what a list may hold, so that a program that reads them is found out.
var behind = [2][]int{{1, 2, 3, 4}, {4, 3, 77, -1}}

// withSpare returns the list with numbers behind its end, and all of its memory.
func withSpare(list []int, spare []int) (short []int, whole []int) {
	whole = slices.Concat(list, spare)
	return whole[:len(list)], whole
}

// checkMemory makes a call on lists with spare capacity, overwrites all that
// it returns, and looks whether the lists, their spare capacity or later
// results are changed by this.
func checkMemory(t *testing.T, c namedCall, g given) {
	t.Helper()
	want := c.run(given{slices.Clone(g.first), slices.Clone(g.second), g.x, g.y, g.text})
	want = copied(want)
	for _, spare := range behind {
		a, b := g, g
		var wholeFirst, wholeSecond []int
		a.first, wholeFirst = withSpare(g.first, spare)
		a.second, wholeSecond = withSpare(g.second, spare)
		b.first, b.second = slices.Clone(wholeFirst), slices.Clone(wholeSecond)
		got := c.run(a)
		if !sameResults(got, want) {
			t.Errorf("%s of %v is %v with %v behind its lists, but %v without", c.name, g, got, spare, want)
		}
		overwrite(t, c.name, got)
		if !slices.Equal(wholeFirst, b.first) || !slices.Equal(wholeSecond, b.second) {
			t.Errorf("%s of %v changes its arguments, or its results share their memory", c.name, g)
		}
		if again := c.run(a); !sameResults(again, want) {
			t.Errorf("%s of %v is %v when it is called again, not %v", c.name, g, again, want)
		}
	}
}

func copied(results []any) []any {
	var out []any
	for _, r := range results {
		switch x := r.(type) {
		case []int:
			out = append(out, slices.Clone(x))
		case [][]int:
			var rows [][]int
			for _, row := range x {
				rows = append(rows, slices.Clone(row))
			}
			out = append(out, rows)
		default:
			out = append(out, r)
		}
	}
	return out
}

// sameResults takes nil and empty lists as the same.
func sameResults(a []any, b []any) bool {
	return slices.EqualFunc(a, b, func(x any, y any) bool {
		switch x := x.(type) {
		case []int:
			return slices.Equal(x, y.([]int))
		case [][]int:
			return slices.EqualFunc(x, y.([][]int), slices.Equal[[]int])
		}
		return reflect.DeepEqual(x, y)
	})
}

// overwrite fills all slices of the results, with their spare capacity, each
// with a number of its own, which must still be there when all are filled.
func overwrite(t *testing.T, name string, results []any) {
	t.Helper()
	var slicesOf [][]int
	for _, r := range results {
		switch x := r.(type) {
		case []int:
			slicesOf = append(slicesOf, x[:cap(x)])
		case [][]int:
			for _, row := range x {
				slicesOf = append(slicesOf, row[:cap(row)])
			}
		}
	}
	for i, list := range slicesOf {
		for j := range list {
			list[j] = -1000 - i
		}
	}
	for i, list := range slicesOf {
		if slices.ContainsFunc(list, func(x int) bool { return x != -1000-i }) {
			t.Errorf("%s returns slices that share memory", name)
		}
	}
}

// checkFailure looks whether a call whose last result is false has no other results.
func checkFailure(t *testing.T, c namedCall, g given) {
	t.Helper()
	results := c.run(g)
	if ok := results[len(results)-1].(bool); ok || len(results) == 1 {
		return
	}
	for _, r := range results[:len(results)-1] {
		v := reflect.ValueOf(r)
		if v.Kind() == reflect.Slice && v.Len() > 0 || v.Kind() != reflect.Slice && !v.IsZero() {
			t.Errorf("%s of %v fails but returns %v", c.name, g, results)
		}
	}
}
