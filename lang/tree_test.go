package lang_test

import (
	"math"
	"slices"
	"testing"

	"topiary/api"
	"topiary/lang"
)

// P4.4: all lists of up to four elements with such Args, held against the slow one; the examples.
func TestTree(t *testing.T) {
	trees := 0
	var pool [][]int
	numbers := []int{-1, 0, 1, 2, 3, 4}
	pool = append(pool, nil, []int{})
	for _, a := range numbers {
		pool = append(pool, []int{a})
		for _, b := range numbers {
			pool = append(pool, []int{a, b})
		}
	}
	pool = append(pool, []int{1, 2, 3}, []int{3, 2, 1}, []int{1, 3, 2}, []int{1, 1, 1}, []int{math.MinInt, math.MaxInt})
	var grow func(l []api.Side)
	grow = func(l []api.Side) {
		want := isTree(l)
		if lang.Tree(l) != want {
			t.Fatalf("Tree(%v): not %v", l, want)
		}
		if want {
			trees++
		}
		if len(l) == 4 {
			return
		}
		for _, args := range pool {
			// The last element of four has a few Args only, so that they are not too many lists.
			if len(l) < 3 || len(args) < 2 {
				grow(append(slices.Clone(l), api.Side{Kind: len(l) - 1, Num: -1, Args: args}))
			}
		}
	}
	grow(nil)
	if trees < 9 {
		t.Errorf("%d trees", trees)
	}
	side := func(args ...[]int) []api.Side {
		return rowOf(len(args), func(i int) api.Side { return api.Side{Args: args[i]} })
	}
	for _, c := range []struct {
		l    []api.Side
		want bool
	}{
		{nil, false}, {side(nil), true}, {side([]int{1, 2}, nil, nil), true}, {side([]int{2, 1}, nil, nil), false}, {side([]int{1}, nil, nil), false},
		{side([]int{0}), false}, {side([]int{1}, []int{0}), false}, {side([]int{1, 1}, nil), false}, {side(nil, []int{2}, []int{1}), false}, {side(nil, []int{1}), false}, {side([]int{1, 2}, []int{2}, nil), false},
		{side([]int{1, 3}, []int{2}, nil, nil), true}, {side([]int{1, 2}, []int{3}, nil, nil), false}, {side([]int{1, 4}, []int{2, 3}, nil, nil, []int{5}, nil), true}, {side([]int{1, 2}, nil), false}, {side([]int{1, -1}, nil), false},
	} {
		if lang.Tree(c.l) != c.want {
			t.Errorf("Tree(%v): not %v", c.l, c.want)
		}
	}
}
