package short

import (
	"slices"
	"testing"
)

func TestLists(t *testing.T) {
	want := [][]byte{nil, {}, {7}, {9}, {7, 7}, {7, 9}, {9, 7}, {9, 9}}
	got := Lists([]byte{7, 9}, 2)
	if !slices.EqualFunc(got, want, slices.Equal) || got[0] != nil || got[1] == nil {
		t.Errorf("Lists: %v, not %v", got, want)
	}
	for _, c := range []struct{ of, most, want int }{{0, 3, 2}, {3, 0, 2}, {3, 1, 5}, {3, 4, 2 + 3 + 9 + 27 + 81}} {
		if got := len(Lists(make([]int, c.of), c.most)); got != c.want {
			t.Errorf("Lists of %d, at most %d: %d, not %d", c.of, c.most, got, c.want)
		}
	}
}
