package list_test

import (
	"slices"
	"strconv"
	"testing"

	"nacelle/list"
)

func TestChanged(t *testing.T) {
	numbers := []int{3, -1, 3}
	if got := list.Changed(numbers, strconv.Itoa); !slices.Equal(got, []string{"3", "-1", "3"}) {
		t.Errorf("Changed: got %v", got)
	}
	same := list.Changed(numbers, func(n int) int { return n })
	same[0] = 7
	if numbers[0] != 3 {
		t.Errorf("Changed shares memory with its argument")
	}
	if got := list.Changed(nil, strconv.Itoa); len(got) != 0 {
		t.Errorf("Changed of nothing: got %v", got)
	}
}
