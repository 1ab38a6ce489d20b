package list_test

import (
	"slices"
	"strconv"
	"testing"

	"nacelle/list"
)

func TestChanged(t *testing.T) {
	numbers := []int{3, -1, 3}
	if got := list.Changed(numbers, strconv.Itoa); !slices.Equal(got, []string{"3", "-1", "3"}) {
		t.Errorf("Changed: got %v", got)
	}
	same := list.Changed(numbers, func(n int) int { return n })
	same[0] = 7
	if numbers[0] != 3 {
		t.Errorf("Changed shares memory with its argument")
	}
	if got := list.Changed(nil, strconv.Itoa); len(got) != 0 {
		t.Errorf("Changed of nothing: got %v", got)
	}
}

func TestReplaced(t *testing.T) {
	numbers := []int{3, -1, 5}
	double := func(n int) int { return 2 * n }
	for i, want := range [][]int{{6, -1, 5}, {3, -2, 5}, {3, -1, 10}} {
		if got := list.Replaced(numbers, i, double); !slices.Equal(got, want) {
			t.Errorf("Replaced at %v: got %v, want %v", i, got, want)
		}
	}
	if !slices.Equal(numbers, []int{3, -1, 5}) {
		t.Errorf("Replaced changes its argument: got %v", numbers)
	}
}

func TestPaired(t *testing.T) {
	numbers, words := []int{3, -1, 3}, []string{"a", "b", "c"}
	if got := list.Paired(numbers, words, func(n int, word string) string { return word + strconv.Itoa(n) }); !slices.Equal(got, []string{"a3", "b-1", "c3"}) {
		t.Errorf("Paired: got %v", got)
	}
	first := list.Paired(numbers[:2], words, func(n int, _ string) int { return n })
	if !slices.Equal(first, []int{3, -1}) {
		t.Errorf("Paired with a longer list: got %v", first)
	}
	first[0] = 7
	if numbers[0] != 3 {
		t.Errorf("Paired shares memory with its argument")
	}
	if got := list.Paired(nil, words, func(n int, _ string) int { return n }); len(got) != 0 {
		t.Errorf("Paired of nothing: got %v", got)
	}
}

func TestSum(t *testing.T) {
	for _, row := range []struct {
		l    []int
		want int
	}{{nil, 0}, {[]int{5}, 5}, {[]int{3, -1, 3}, 5}} {
		if got := list.Sum(row.l); got != row.want {
			t.Errorf("Sum of %v: got %v, want %v", row.l, got, row.want)
		}
	}
}

func TestKept(t *testing.T) {
	numbers := []int{3, -1, 3, 0}
	kept := list.Kept(numbers, func(n int) bool { return n != -1 })
	if !slices.Equal(kept, []int{3, 3, 0}) {
		t.Errorf("Kept: got %v", kept)
	}
	all := list.Kept(numbers, func(int) bool { return true })
	all[0] = 7
	if !slices.Equal(numbers, []int{3, -1, 3, 0}) {
		t.Errorf("Kept shares memory with its argument")
	}
	if got := list.Kept(numbers, func(int) bool { return false }); len(got) != 0 {
		t.Errorf("Kept of nothing: got %v", got)
	}
}

func TestJump(t *testing.T) {
	for _, row := range []struct {
		l          []int
		most, want int
	}{{nil, 0, -1}, {[]int{9}, 0, -1}, {[]int{1, 3, 0, 9}, 2, 2}, {[]int{1, 3, 0, 9}, 1, 1}, {[]int{1, 3, 0, 9}, 3, 3}, {[]int{1, 3, 0, 9}, 9, -1}, {[]int{-5, 5}, 9, 1}, {[]int{5, -5}, 10, -1}, {[]int{2, 2}, 0, -1}} {
		if got := list.Jump(row.l, row.most); got != row.want {
			t.Errorf("Jump of %v by %v: got %v, want %v", row.l, row.most, got, row.want)
		}
	}
}
