package tests

import (
	"fmt"
	"math"
	"slices"
	"strings"
	"testing"
)

// oddNumbers are numbers out of the bounds of nearly all arguments, and at their edges.
var oddNumbers = []int{math.MinInt, math.MinInt + 1, -1000, -2, -1, 0, 1, 2, 39, 40, 41, 42, 49, 50, 51, 100, 1 << 32, math.MaxInt - 1, math.MaxInt}

func wantInt(t *testing.T, what string, want, got int, ok bool) {
	t.Helper()
	if got != want || !ok {
		t.Errorf("%s: %d %v, want %d", what, got, ok, want)
	}
}

func wantText(t *testing.T, what, want, got string, ok bool) {
	t.Helper()
	if got != want || !ok {
		t.Errorf("%s: %q %v, want %q", what, got, ok, want)
	}
}

func wantBool(t *testing.T, what string, want, got, ok bool) {
	t.Helper()
	if got != want || !ok {
		t.Errorf("%s: %v %v, want %v", what, got, ok, want)
	}
}

func wantList(t *testing.T, what string, want, got []int, ok bool) {
	t.Helper()
	if !slices.Equal(want, got) || !ok {
		t.Errorf("%s: %v %v, want %v", what, got, ok, want)
	}
}

// wantIntOr requires the number if there is one, and that the call fails otherwise.
func wantIntOr(t *testing.T, what string, exists bool, want, got int, ok bool) {
	t.Helper()
	if !exists {
		want = 0
	}
	if got != want || ok != exists {
		t.Errorf("%s: %d %v, want %d %v", what, got, ok, want, exists)
	}
}

// wantTextOr requires the text if there is one, and that the call fails otherwise.
func wantTextOr(t *testing.T, what string, exists bool, want, got string, ok bool) {
	t.Helper()
	if !exists {
		want = ""
	}
	if got != want || ok != exists {
		t.Errorf("%s: %q %v, want %q %v", what, got, ok, want, exists)
	}
}

// wantListOr requires the list if there is one, and that the call fails otherwise.
func wantListOr(t *testing.T, what string, exists bool, want, got []int, ok bool) {
	t.Helper()
	if !exists {
		want = nil
	}
	if !slices.Equal(want, got) || ok != exists {
		t.Errorf("%s: %v %v, want %v %v", what, got, ok, want, exists)
	}
}

// wantTwo requires both numbers if there are such, and that the call fails otherwise.
func wantTwo(t *testing.T, what string, exists bool, want, wantNext, got, gotNext int, ok bool) {
	t.Helper()
	if !exists {
		want, wantNext = 0, 0
	}
	if got != want || gotNext != wantNext || ok != exists {
		t.Errorf("%s: %d %d %v, want %d %d %v", what, got, gotNext, ok, want, wantNext, exists)
	}
}

// wantRowsOr requires the lists if there are such, and that the call fails otherwise.
func wantRowsOr(t *testing.T, what string, exists bool, want, got [][]int, ok bool) {
	t.Helper()
	if !exists {
		want = nil
	}
	if !slices.EqualFunc(want, got, slices.Equal) || ok != exists {
		t.Errorf("%s: %v %v, want %v %v", what, got, ok, want, exists)
	}
}

// withRoom returns a list with the same numbers, and behind them room that holds 77s.
func withRoom(list []int) []int {
	room := slices.Repeat([]int{77}, len(list)+4)
	copy(room, list)
	return room[:len(list)]
}

// isUntouched reports whether a list made by withRoom of these numbers is as it was, with its room.
func isUntouched(list, numbers []int) bool {
	room := list[:cap(list)]
	for _, n := range room[len(list):] {
		if n != 77 {
			return false
		}
	}
	return slices.Equal(list, numbers)
}

// wantNewLists requires of each call that what is written to its list, and to the room behind it, is not seen in the next one.
func wantNewLists(t *testing.T, calls map[string]func() ([]int, bool)) {
	t.Helper()
	for name, call := range calls {
		first, _ := call()
		kept := slices.Clone(first)
		for i := range first[:cap(first)] {
			first[:cap(first)][i] = -99
		}
		again, ok := call()
		wantList(t, name, kept, again, ok)
		if len(kept) == 0 {
			t.Error(name, "gives nothing to look at")
		}
	}
}

// wantNewRows requires of each call that what is written to one of its lists, and to the room behind it, is seen neither in its others nor in the next ones.
func wantNewRows(t *testing.T, calls map[string]func() ([][]int, bool)) {
	t.Helper()
	for name, call := range calls {
		first, _ := call()
		var kept [][]int
		for _, row := range first {
			kept = append(kept, slices.Clone(row))
		}
		if len(kept) < 2 {
			t.Error(name, "gives nothing to look at")
		}
		for i := range kept {
			rows, ok := call()
			room := rows[i][:cap(rows[i])]
			for k := range room {
				room[k] = -99
			}
			rows[i] = kept[i]
			wantRowsOr(t, fmt.Sprint(name, " behind a change of ", i), true, kept, rows, ok)
			clear(rows[:cap(rows)])
		}
		again, ok := call()
		wantRowsOr(t, name, true, kept, again, ok)
	}
}

func sumByHand(numbers []int) int {
	sum := 0
	for _, n := range numbers {
		sum += n
	}
	return sum
}

// partsOf returns all increasing lists of indices less than n, in lexicographic order, the empty one first.
func partsOf(n int) [][]int {
	var parts [][]int
	for set := range 1 << n {
		var part []int
		for i := range n {
			if set>>i&1 == 1 {
				part = append(part, i)
			}
		}
		parts = append(parts, part)
	}
	slices.SortFunc(parts, slices.Compare)
	return parts
}

func picked(list, part []int) []int {
	var numbers []int
	for _, i := range part {
		numbers = append(numbers, list[i])
	}
	return numbers
}

// mixedRow returns numbers that follow a rule and look mixed.
type mixedRow struct{ z int }

func (r *mixedRow) next(below int) int {
	r.z = (r.z*7141 + 54773) % 259200
	return r.z * below / 259200
}

func (r *mixedRow) list(count, least, most int) []int {
	list := make([]int, count)
	for i := range list {
		list[i] = least + r.next(most-least+1)
	}
	return list
}

func isFailure(told string) bool { return told == "0 false" || told == "false false" }

// requireFailures requires that just the named calls fail, with zero values, and that all others succeed.
func requireFailures(t *testing.T, what string, told map[string]string, failing ...string) {
	t.Helper()
	for name, results := range told {
		if fails := slices.Contains(failing, name); fails && !isFailure(results) || !fails && !strings.HasSuffix(results, " true") {
			t.Errorf("%s with %s: %s", name, what, results)
		}
	}
}

// changedTexts returns a text with each place left out, and with other signs at it and before it.
func changedTexts(text string) []string {
	var changed []string
	for i := range len(text) + 1 {
		for _, sign := range []string{"0", "1", "2", "6", "7", "8", "9", "i", "x", "-", ":", ",", "+", " ", "_", ".", "I", "\n", "\x00", "\xff"} {
			changed = append(changed, text[:i]+sign+text[i:])
			if i < len(text) {
				changed = append(changed, text[:i]+sign+text[i+1:])
			}
		}
		if i < len(text) {
			changed = append(changed, text[:i]+text[i+1:], text[:i])
		}
	}
	return changed
}
