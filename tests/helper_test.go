package tests

import (
	"math"
	"slices"
	"testing"
)

// oddNumbers are numbers out of the bounds of nearly all arguments, and at their edges.
var oddNumbers = []int{math.MinInt, math.MinInt + 1, -1000, -2, -1, 0, 1, 2, 39, 40, 41, 42, 49, 50, 51, 100, 1 << 32, math.MaxInt - 1, math.MaxInt}

func wantInt(t *testing.T, what string, want, got int, ok bool) {
	t.Helper()
	if got != want || !ok {
		t.Errorf("%s: %d %v, want %d", what, got, ok, want)
	}
}

func wantText(t *testing.T, what, want, got string, ok bool) {
	t.Helper()
	if got != want || !ok {
		t.Errorf("%s: %q %v, want %q", what, got, ok, want)
	}
}

func wantBool(t *testing.T, what string, want, got, ok bool) {
	t.Helper()
	if got != want || !ok {
		t.Errorf("%s: %v %v, want %v", what, got, ok, want)
	}
}

func wantList(t *testing.T, what string, want, got []int, ok bool) {
	t.Helper()
	if !slices.Equal(want, got) || !ok {
		t.Errorf("%s: %v %v, want %v", what, got, ok, want)
	}
}

// wantIntOr requires the number if there is one, and that the call fails otherwise.
func wantIntOr(t *testing.T, what string, exists bool, want, got int, ok bool) {
	t.Helper()
	if !exists {
		want = 0
	}
	if got != want || ok != exists {
		t.Errorf("%s: %d %v, want %d %v", what, got, ok, want, exists)
	}
}

// wantListOr requires the list if there is one, and that the call fails otherwise.
func wantListOr(t *testing.T, what string, exists bool, want, got []int, ok bool) {
	t.Helper()
	if !exists {
		want = nil
	}
	if !slices.Equal(want, got) || ok != exists {
		t.Errorf("%s: %v %v, want %v %v", what, got, ok, want, exists)
	}
}

// withRoom returns a list with the same numbers, and behind them room that holds 77s.
func withRoom(list []int) []int {
	room := slices.Repeat([]int{77}, len(list)+4)
	copy(room, list)
	return room[:len(list)]
}

// isUntouched reports whether a list made by withRoom of these numbers is as it was, with its room.
func isUntouched(list, numbers []int) bool {
	room := list[:cap(list)]
	for _, n := range room[len(list):] {
		if n != 77 {
			return false
		}
	}
	return slices.Equal(list, numbers)
}

// wantNewLists requires of each call that what is written to its list, and to the room behind it, is not seen in the next one.
func wantNewLists(t *testing.T, calls map[string]func() ([]int, bool)) {
	t.Helper()
	for name, call := range calls {
		first, _ := call()
		kept := slices.Clone(first)
		for i := range first[:cap(first)] {
			first[:cap(first)][i] = -99
		}
		again, ok := call()
		wantList(t, name, kept, again, ok)
		if len(kept) == 0 {
			t.Error(name, "gives nothing to look at")
		}
	}
}
