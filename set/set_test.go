package set_test

import (
	"math"
	"slices"
	"testing"

	"pact/api"
	"pact/set"
)

// lists tells all lists of different nodes, in all orders.
func lists(nodes int) [][]int {
	all := [][]int{nil}
	for k := 0; k < len(all); k++ {
		for i := range nodes {
			if !slices.Contains(all[k], i) {
				all = append(all, append(slices.Clone(all[k]), i))
			}
		}
	}
	return all
}

func TestOf(t *testing.T) {
	for nodes := 1; nodes <= api.MaxNodes; nodes++ {
		for _, list := range lists(nodes)[1:] {
			s, right := set.Of(list, nodes)
			if !right {
				t.Fatalf("Of(%v, %d) is wrong", list, nodes)
			}
			want := slices.Sorted(slices.Values(list))
			if !slices.Equal(s.Members(), want) {
				t.Errorf("Of(%v, %d) has the members %v", list, nodes, s.Members())
			}
			for i := range api.MaxNodes {
				left := slices.DeleteFunc(slices.Clone(want), func(m int) bool { return m == i })
				if s.Has(i) != slices.Contains(list, i) || !slices.Equal(s.Without(i).Members(), left) {
					t.Errorf("Of(%v, %d): Has(%d) is %v, Without(%d) is %v", list, nodes, i, s.Has(i), i, s.Without(i).Members())
				}
			}
		}
	}
}

func TestBits(t *testing.T) {
	if s, _ := set.Of([]int{3, 0}, 4); s != 9 {
		t.Errorf("the set of nodes 0 and 3 is %d, want 9", s)
	}
}

func TestOfWrong(t *testing.T) {
	for _, list := range [][]int{nil, {}, {3}, {-1}, {0, 3}, {1, 1}, {0, 1, 2, 0}, {0, 1, 2, 3}, {64}, {-64}, {math.MaxInt}, {math.MinInt}, make([]int, 1000)} {
		if s, right := set.Of(list, 3); s != 0 || right {
			t.Errorf("Of(%v, 3) = %d, %v", list, s, right)
		}
	}
}
