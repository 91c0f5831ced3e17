package tests

import (
	"fmt"
	"math"
	"slices"
	"strings"
	"testing"

	"loop.example/g01352/impl"
)

// crossingsByHand returns all crossings in lexicographic order, as the document tells them.
func crossingsByHand(river string, leap int) [][]int {
	far := len(river) + 1
	var all [][]int
	var walk func(way []int)
	walk = func(way []int) {
		at := way[len(way)-1]
		if at == far {
			all = append(all, slices.Clone(way))
			return
		}
		for to := at + 1; to <= far && to-at <= leap; to++ {
			if to == far || river[to-1] == 'o' {
				walk(append(slices.Clone(way), to))
			}
		}
	}
	walk([]int{0})
	return all
}

// smallRivers returns all rivers of 1 up to most places.
func smallRivers(most int) []string {
	var all []string
	longest := []string{""}
	for range most {
		var longer []string
		for _, r := range longest {
			longer = append(longer, r+".", r+"o")
		}
		all = append(all, longer...)
		longest = longer
	}
	return all
}

func stonesByHand(river string) []int {
	var stones []int
	for i, sign := range river {
		if sign == 'o' {
			stones = append(stones, i+1)
		}
	}
	return stones
}

func fewestByHand(crossings [][]int) []int {
	var best []int
	for _, c := range crossings {
		if best == nil || len(c) < len(best) {
			best = c
		}
	}
	return best
}

// addedByHand tries all sets of places with water and returns the last one of the smallest that let one cross.
func addedByHand(river string, leap int) []int {
	var water []int
	for i, sign := range river {
		if sign == '.' {
			water = append(water, i+1)
		}
	}
	var best []int
	found := false
	for set := range 1 << len(water) {
		signs := []byte(river)
		var added []int
		for i, place := range water {
			if set>>i&1 == 1 {
				signs[place-1] = 'o'
				added = append(added, place)
			}
		}
		if found && (len(added) > len(best) || len(added) == len(best) && slices.Compare(added, best) < 0) {
			continue
		}
		if len(crossingsByHand(string(signs), leap)) > 0 {
			best, found = added, true
		}
	}
	return best
}

// leftByHand returns the least number of leaps to the far bank by going over all ways from each place.
func leftByHand(river string, leap int) []int {
	far := len(river) + 1
	left := make([]int, far+1)
	for place := range far {
		left[place] = -1
		if place > 0 && river[place-1] == '.' {
			continue
		}
		if place == far-1 { // the far bank is the next place
			left[place] = 1
			continue
		}
		if best := fewestByHand(crossingsByHand(river[place:], leap)); best != nil {
			left[place] = len(best) - 1
		}
	}
	return left
}

func reachByHand(river string, leap int) int {
	reached := map[int]bool{0: true}
	farthest := 0
	for place := 1; place <= len(river)+1; place++ {
		for from := range place {
			stands := place == len(river)+1 || river[place-1] == 'o'
			if stands && reached[from] && place-from <= leap {
				reached[place] = true
				farthest = place
			}
		}
	}
	return farthest
}

func TestStoneExample(t *testing.T) {
	const river = ".o..o"
	stones, ok := impl.StonesOf(river)
	wantList(t, "StonesOf", []int{2, 5}, stones, ok)
	least, ok := impl.LeastLeap(river)
	wantInt(t, "LeastLeap", 3, least, ok)
	fewest, ok := impl.FewestLeaps(river, 3)
	wantInt(t, "FewestLeaps 3", 3, fewest, ok)
	first, ok := impl.FirstCrossing(river, 3)
	wantList(t, "FirstCrossing 3", []int{0, 2, 5, 6}, first, ok)
	fewest, ok = impl.FewestLeaps(river, 4)
	wantInt(t, "FewestLeaps 4", 2, fewest, ok)
	first, ok = impl.FirstCrossing(river, 4)
	wantList(t, "FirstCrossing 4", []int{0, 2, 6}, first, ok)
	count, ok := impl.CountCrossings(river, 4)
	wantInt(t, "CountCrossings 4", 2, count, ok)
	length, from, ok := impl.LongestGap(river)
	wantInt(t, "LongestGap", 3, length, ok)
	wantInt(t, "LongestGap begins", 2, from, ok)
	needed, ok := impl.NeededStones(river, 3)
	wantList(t, "NeededStones 3", []int{2, 5}, needed, ok)
	needed, ok = impl.NeededStones(river, 4)
	wantList(t, "NeededStones 4", []int{2}, needed, ok)
	fewest, ok = impl.FewestToAdd(river, 2)
	wantInt(t, "FewestToAdd 2", 1, fewest, ok)
	added, ok := impl.StonesToAdd(river, 2)
	wantList(t, "StonesToAdd 2", []int{4}, added, ok)
	left, ok := impl.LeapsLeft(river, 3)
	wantList(t, "LeapsLeft 3", []int{3, -1, 2, -1, -1, 1, 0}, left, ok)
	if n, ok := impl.FewestLeaps(river, 2); n != 0 || ok {
		t.Error("FewestLeaps 2 does not fail", n, ok)
	}
}

// Promise 1: on all small rivers everything agrees with the crossings counted one by one.
func TestCrossingsOfSmallRivers(t *testing.T) {
	for _, river := range smallRivers(8) {
		for _, leap := range []int{1, 2, 3, 4, 5, 6, 7, 8, 9, 10, impl.MaxLeap} {
			what := fmt.Sprintf("%s %d", river, leap)
			all := crossingsByHand(river, leap)
			checkCrossings(t, what, river, leap, all)
			checkStones(t, what, river, leap, all)
		}
	}
}

func checkCrossings(t *testing.T, what, river string, leap int, all [][]int) {
	t.Helper()
	best := fewestByHand(all)
	can, ok := impl.CanCross(river, leap)
	wantBool(t, "CanCross "+what, len(all) > 0, can, ok)
	fewest, ok := impl.FewestLeaps(river, leap)
	wantIntOr(t, "FewestLeaps "+what, best != nil, len(best)-1, fewest, ok)
	first, ok := impl.FirstCrossing(river, leap)
	wantListOr(t, "FirstCrossing "+what, best != nil, best, first, ok)
	count, ok := impl.CountCrossings(river, leap)
	wantInt(t, "CountCrossings "+what, len(all), count, ok)
	byLeaps := make([]int, impl.MaxRiver+2)
	for _, c := range all {
		byLeaps[len(c)-1]++
	}
	for leaps, want := range byLeaps {
		n, ok := impl.CountByLeaps(river, leap, leaps)
		wantInt(t, fmt.Sprint("CountByLeaps ", what, leaps), want, n, ok)
	}
	reach, ok := impl.ReachOf(river, leap)
	wantInt(t, "ReachOf "+what, reachByHand(river, leap), reach, ok)
	left, ok := impl.LeapsLeft(river, leap)
	wantList(t, "LeapsLeft "+what, leftByHand(river, leap), left, ok)
}

func checkStones(t *testing.T, what, river string, leap int, all [][]int) {
	t.Helper()
	var inEach, inNone []int
	for _, stone := range stonesByHand(river) {
		times := 0
		for _, c := range all {
			if slices.Contains(c, stone) {
				times++
			}
		}
		if times == len(all) {
			inEach = append(inEach, stone)
		}
		if times == 0 {
			inNone = append(inNone, stone)
		}
	}
	needed, ok := impl.NeededStones(river, leap)
	wantListOr(t, "NeededStones "+what, len(all) > 0, inEach, needed, ok)
	idle, ok := impl.IdleStones(river, leap)
	wantList(t, "IdleStones "+what, inNone, idle, ok)
}

func TestAddedStonesOfSmallRivers(t *testing.T) {
	for _, river := range smallRivers(7) {
		for leap := 1; leap <= 9; leap++ {
			what := fmt.Sprintf("%s %d", river, leap)
			want := addedByHand(river, leap)
			added, ok := impl.StonesToAdd(river, leap)
			wantList(t, "StonesToAdd "+what, want, added, ok)
			fewest, ok := impl.FewestToAdd(river, leap)
			wantInt(t, "FewestToAdd "+what, len(want), fewest, ok)
		}
	}
}

func TestLeastLeapAndGapOfSmallRivers(t *testing.T) {
	for _, river := range smallRivers(9) {
		least := 1
		for len(crossingsByHand(river, least)) == 0 {
			least++
		}
		got, ok := impl.LeastLeap(river)
		wantInt(t, "LeastLeap "+river, least, got, ok)
		stands := append([]int{0}, append(stonesByHand(river), len(river)+1)...)
		length, begins := 0, 0
		for i := 1; i < len(stands); i++ {
			if gap := stands[i] - stands[i-1]; gap > length {
				length, begins = gap, stands[i-1]
			}
		}
		gap, from, ok := impl.LongestGap(river)
		wantInt(t, "LongestGap "+river, length, gap, ok)
		wantInt(t, "LongestGap begins "+river, begins, from, ok)
	}
}

func TestChangedSmallRivers(t *testing.T) {
	rivers := smallRivers(6)
	for _, river := range rivers {
		stones, ok := impl.StonesOf(river)
		wantList(t, "StonesOf "+river, stonesByHand(river), stones, ok)
		mirrored := []byte(river)
		slices.Reverse(mirrored)
		m, ok := impl.MirrorRiver(river)
		wantText(t, "MirrorRiver "+river, string(mirrored), m, ok)
		for place := -1; place <= len(river)+2; place++ {
			checkPutAndTake(t, river, place)
		}
	}
	for _, a := range rivers[:30] {
		for _, b := range rivers[:30] {
			joined, ok := impl.JoinRivers(a, b)
			wantText(t, "JoinRivers", a+b, joined, ok)
		}
	}
}

func checkPutAndTake(t *testing.T, river string, place int) {
	t.Helper()
	var put, take string
	if 1 <= place && place <= len(river) {
		before, behind := river[:place-1], river[place:]
		if river[place-1] == '.' {
			put = before + "o" + behind
		} else {
			take = before + "." + behind
		}
	}
	if r, ok := impl.PutStone(river, place); r != put || ok != (put != "") {
		t.Errorf("PutStone %s %d: %q %v, want %q", river, place, r, ok, put)
	}
	if r, ok := impl.TakeStone(river, place); r != take || ok != (take != "") {
		t.Errorf("TakeStone %s %d: %q %v, want %q", river, place, r, ok, take)
	}
}

func TestRiverWithoutStones(t *testing.T) {
	for n := 1; n <= impl.MaxRiver; n++ {
		river := strings.Repeat(".", n)
		what := fmt.Sprint("water ", n)
		if !impl.IsRiver(river) {
			t.Error("no river:", what)
		}
		stones, ok := impl.StonesOf(river)
		wantList(t, "StonesOf "+what, nil, stones, ok)
		least, ok := impl.LeastLeap(river)
		wantInt(t, "LeastLeap "+what, n+1, least, ok)
		gap, from, ok := impl.LongestGap(river)
		wantInt(t, "LongestGap "+what, n+1, gap, ok)
		wantInt(t, "LongestGap begins "+what, 0, from, ok)
		first, ok := impl.FirstCrossing(river, n+1)
		wantList(t, "FirstCrossing "+what, []int{0, n + 1}, first, ok)
		needed, ok := impl.NeededStones(river, n+1)
		wantList(t, "NeededStones "+what, nil, needed, ok)
		reach, ok := impl.ReachOf(river, n)
		wantInt(t, "ReachOf "+what, 0, reach, ok)
		count, ok := impl.CountCrossings(river, n)
		wantInt(t, "CountCrossings "+what, 0, count, ok)
		can, ok := impl.CanCross(river, n)
		wantBool(t, "CanCross "+what, false, can, ok)
		idle, ok := impl.IdleStones(river, n)
		wantList(t, "IdleStones "+what, nil, idle, ok)
		fewest, ok := impl.FewestToAdd(river, 1)
		wantInt(t, "FewestToAdd "+what, n, fewest, ok)
		added, ok := impl.StonesToAdd(river, n)
		wantList(t, "StonesToAdd "+what, []int{n}, added, ok)
	}
}

func TestRiverOfOnePlace(t *testing.T) {
	left, ok := impl.LeapsLeft(".", 1)
	wantList(t, "LeapsLeft . 1", []int{-1, -1, 0}, left, ok)
	left, ok = impl.LeapsLeft("o", 1)
	wantList(t, "LeapsLeft o 1", []int{2, 1, 0}, left, ok)
	left, ok = impl.LeapsLeft("o", 2)
	wantList(t, "LeapsLeft o 2", []int{1, 1, 0}, left, ok)
	count, ok := impl.CountCrossings("o", 2)
	wantInt(t, "CountCrossings o 2", 2, count, ok)
	needed, ok := impl.NeededStones("o", 1)
	wantList(t, "NeededStones o 1", []int{1}, needed, ok)
	needed, ok = impl.NeededStones("o", 2)
	wantList(t, "NeededStones o 2", nil, needed, ok)
	river, ok := impl.PutStone(".", 1)
	wantText(t, "PutStone . 1", "o", river, ok)
	river, ok = impl.TakeStone("o", 1)
	wantText(t, "TakeStone o 1", ".", river, ok)
	gap, from, ok := impl.LongestGap("o")
	wantInt(t, "LongestGap o", 1, gap, ok)
	wantInt(t, "LongestGap o begins", 0, from, ok)
}

func TestLongestRiver(t *testing.T) {
	river := strings.Repeat("o", impl.MaxRiver)
	far := impl.MaxRiver + 1
	each := make([]int, far+1)
	for place := range each {
		each[place] = place
	}
	first, ok := impl.FirstCrossing(river, 1)
	wantList(t, "FirstCrossing 1", each, first, ok)
	needed, ok := impl.NeededStones(river, 1)
	wantList(t, "NeededStones 1", each[1:far], needed, ok)
	count, ok := impl.CountCrossings(river, 1)
	wantInt(t, "CountCrossings 1", 1, count, ok)
	count, ok = impl.CountCrossings(river, 2)
	wantInt(t, "CountCrossings 2", 267914296, count, ok) // the Fibonacci number 42
	first, ok = impl.FirstCrossing(river, 20)
	wantList(t, "FirstCrossing 20", []int{0, 1, 21, 41}, first, ok)
	stones, ok := impl.StonesOf(river)
	wantList(t, "StonesOf", each[1:far], stones, ok)
	same, ok := impl.MirrorRiver(river)
	wantText(t, "MirrorRiver", river, same, ok)
	mixed := "o" + strings.Repeat(".", impl.MaxRiver-2) + "o"
	added, ok := impl.StonesToAdd(mixed, 15)
	wantList(t, "StonesToAdd", []int{16, 31}, added, ok)
	reach, ok := impl.ReachOf(mixed, 38)
	wantInt(t, "ReachOf 38", 1, reach, ok)
	reach, ok = impl.ReachOf(mixed, 39)
	wantInt(t, "ReachOf 39", far, reach, ok)
}

// No river has more crossings than 2 to the power of MaxRiver, so that no count comes to MaxCrossings.
func TestGreatestCounts(t *testing.T) {
	river := strings.Repeat("o", impl.MaxRiver)
	for leap := impl.MaxRiver + 1; leap <= impl.MaxLeap; leap++ {
		count, ok := impl.CountCrossings(river, leap)
		wantInt(t, "CountCrossings", 1<<impl.MaxRiver, count, ok)
		binomial := 1
		for leaps := 1; leaps <= impl.MaxRiver+1; leaps++ {
			n, ok := impl.CountByLeaps(river, leap, leaps)
			wantInt(t, fmt.Sprint("CountByLeaps ", leaps), binomial, n, ok)
			binomial = binomial * (impl.MaxRiver + 1 - leaps) / leaps
		}
		none, ok := impl.CountByLeaps(river, leap, 0)
		wantInt(t, "CountByLeaps 0", 0, none, ok)
	}
}

func TestLeapsLongerThanRiver(t *testing.T) {
	for _, leap := range []int{6, 7, 40, 41, impl.MaxLeap - 1, impl.MaxLeap} {
		first, ok := impl.FirstCrossing(".o..o", leap)
		wantList(t, "FirstCrossing", []int{0, 6}, first, ok)
		count, ok := impl.CountCrossings(".o..o", leap)
		wantInt(t, "CountCrossings", 4, count, ok)
		needed, ok := impl.NeededStones(".o..o", leap)
		wantList(t, "NeededStones", nil, needed, ok)
		idle, ok := impl.IdleStones(".o..o", leap)
		wantList(t, "IdleStones", nil, idle, ok)
		fewest, ok := impl.FewestToAdd(".o..o", leap)
		wantInt(t, "FewestToAdd", 0, fewest, ok)
		added, ok := impl.StonesToAdd(".o..o", leap)
		wantList(t, "StonesToAdd", nil, added, ok)
		left, ok := impl.LeapsLeft(".o..o", leap)
		wantList(t, "LeapsLeft", []int{1, -1, 1, -1, -1, 1, 0}, left, ok)
	}
}

func TestLeapAlong(t *testing.T) {
	cases := []struct {
		river string
		leaps []int
		want  int
		ok    bool
	}{
		{".o..o", nil, 0, true},
		{".o..o", []int{}, 0, true},
		{".o..o", []int{2}, 2, true},
		{".o..o", []int{2, 3}, 5, true},
		{".o..o", []int{2, 3, 1}, 6, true},
		{".o..o", []int{6}, 6, true},
		{".o..o", []int{1}, 0, false},
		{".o..o", []int{1, 1}, 0, false},
		{".o..o", []int{2, 1, 2}, 0, false},
		{".o..o", []int{7}, 0, false},
		{".o..o", []int{2, 3, 1, 1}, 0, false},
		{".o..o", []int{0}, 0, false},
		{".o..o", []int{2, 0}, 0, false},
		{".o..o", []int{5, -3}, 0, false},
		{".o..o", []int{-1}, 0, false},
		{".o..o", []int{2, math.MaxInt}, 0, false},
		{".o..o", []int{math.MaxInt}, 0, false},
		{".o..o", []int{math.MinInt}, 0, false},
		{".", []int{2}, 2, true},
		{"o", slices.Repeat([]int{1}, 42), 0, false},
		{strings.Repeat(".", 40), []int{41}, 41, true},
		{strings.Repeat("o", 40), slices.Repeat([]int{1}, 40), 40, true},
		{strings.Repeat("o", 40), slices.Repeat([]int{1}, 41), 41, true},
		{strings.Repeat("o", 40), slices.Repeat([]int{1}, 42), 0, false},
	}
	for _, c := range cases {
		if got, ok := impl.LeapAlong(c.river, c.leaps); got != c.want || ok != c.ok {
			t.Errorf("LeapAlong %s %v: %d %v, want %d %v", c.river, c.leaps, got, ok, c.want, c.ok)
		}
	}
	for _, river := range smallRivers(6) {
		for _, crossing := range crossingsByHand(river, impl.MaxLeap) {
			var leaps []int
			for i := 1; i < len(crossing); i++ {
				leaps = append(leaps, crossing[i]-crossing[i-1])
			}
			for i := range crossing {
				got, ok := impl.LeapAlong(river, leaps[:i])
				wantInt(t, "LeapAlong "+river, crossing[i], got, ok)
			}
		}
	}
}

func TestJoinRiversUpToMaxRiver(t *testing.T) {
	for n := 1; n < impl.MaxRiver; n++ {
		a, b := strings.Repeat("o", n), strings.Repeat(".", impl.MaxRiver-n)
		joined, ok := impl.JoinRivers(a, b)
		wantText(t, "JoinRivers", a+b, joined, ok)
		if r, ok := impl.JoinRivers(a+"o", b); r != "" || ok {
			t.Error("JoinRivers joins too many", n, r)
		}
	}
}

// noRivers returns texts that are no rivers.
func noRivers() []string {
	return []string{
		"", strings.Repeat("o", impl.MaxRiver+1), strings.Repeat(".", impl.MaxRiver+1), strings.Repeat("o", 100000),
		"O", "0", "x", " ", ".o ", " .o", ".o\n", "\x00", ".\x00o", "o,o", "ö", "о", "．", "..\xff", "o.-",
	}
}

// stoneCalls returns all calls of chapter 1 with a river, told by the results that should be zero if it fails.
func stoneCalls(leap, number int) map[string]func(river string) string {
	tell := func(results ...any) string { return fmt.Sprint(results...) }
	return map[string]func(river string) string{
		"StonesOf":       func(r string) string { a, ok := impl.StonesOf(r); return tell(len(a), ok) },
		"CanCross":       func(r string) string { a, ok := impl.CanCross(r, leap); return tell(a, ok) },
		"LeastLeap":      func(r string) string { a, ok := impl.LeastLeap(r); return tell(a, ok) },
		"FewestLeaps":    func(r string) string { a, ok := impl.FewestLeaps(r, leap); return tell(a, ok) },
		"FirstCrossing":  func(r string) string { a, ok := impl.FirstCrossing(r, leap); return tell(len(a), ok) },
		"CountCrossings": func(r string) string { a, ok := impl.CountCrossings(r, leap); return tell(a, ok) },
		"CountByLeaps":   func(r string) string { a, ok := impl.CountByLeaps(r, leap, number); return tell(a, ok) },
		"ReachOf":        func(r string) string { a, ok := impl.ReachOf(r, leap); return tell(a, ok) },
		"LongestGap":     func(r string) string { a, b, ok := impl.LongestGap(r); return tell(a+b, ok) },
		"NeededStones":   func(r string) string { a, ok := impl.NeededStones(r, leap); return tell(len(a), ok) },
		"IdleStones":     func(r string) string { a, ok := impl.IdleStones(r, leap); return tell(len(a), ok) },
		"FewestToAdd":    func(r string) string { a, ok := impl.FewestToAdd(r, leap); return tell(a, ok) },
		"StonesToAdd":    func(r string) string { a, ok := impl.StonesToAdd(r, leap); return tell(len(a), ok) },
		"PutStone":       func(r string) string { a, ok := impl.PutStone(r, number); return tell(len(a), ok) },
		"TakeStone":      func(r string) string { a, ok := impl.TakeStone(r, number); return tell(len(a), ok) },
		"LeapAlong":      func(r string) string { a, ok := impl.LeapAlong(r, []int{number, leap}); return tell(a, ok) },
		"LeapsLeft":      func(r string) string { a, ok := impl.LeapsLeft(r, leap); return tell(len(a), ok) },
		"MirrorRiver":    func(r string) string { a, ok := impl.MirrorRiver(r); return tell(len(a), ok) },
		"JoinRivers":     func(r string) string { a, ok := impl.JoinRivers(r, "o"); return tell(len(a), ok) },
		"JoinRivers two": func(r string) string { a, ok := impl.JoinRivers("o", r); return tell(len(a), ok) },
	}
}

// Promise 11: texts that are no rivers make every call fail with zero values.
func TestTextsThatAreNoRivers(t *testing.T) {
	for _, text := range noRivers() {
		if impl.IsRiver(text) {
			t.Errorf("IsRiver %q", text)
		}
		for name, call := range stoneCalls(1, 1) {
			if told := call(text); !isFailure(told) {
				t.Errorf("%s %q: %s", name, text, told)
			}
		}
	}
	for _, river := range append(smallRivers(5), strings.Repeat("o", 40), strings.Repeat(".", 40)) {
		if !impl.IsRiver(river) {
			t.Errorf("IsRiver %q is false", river)
		}
	}
}

// Promise 11: lengths of leaps and numbers out of their bounds make the calls with them fail with zero values.
func TestNumbersOutOfBounds(t *testing.T) {
	withLeap := []string{"CanCross", "FewestLeaps", "FirstCrossing", "CountCrossings", "CountByLeaps", "ReachOf", "NeededStones", "IdleStones", "FewestToAdd", "StonesToAdd", "LeapsLeft"}
	for _, n := range oddNumbers {
		calls := stoneCalls(n, 1)
		for _, name := range withLeap {
			valid := 1 <= n && n <= impl.MaxLeap
			told := calls[name]("ooo")
			if valid && !strings.HasSuffix(told, " true") || !valid && !isFailure(told) {
				t.Errorf("%s with leaps of %d: %s", name, n, told)
			}
		}
		calls = stoneCalls(1, n)
		told := calls["CountByLeaps"]("ooo")
		if valid := 0 <= n && n <= impl.MaxRiver+1; valid && told != "0 true" || !valid && !isFailure(told) {
			t.Errorf("CountByLeaps of %d leaps: %s", n, told)
		}
		if told := calls["PutStone"]("..."); (1 <= n && n <= 3) == isFailure(told) {
			t.Errorf("PutStone at %d: %s", n, told)
		}
		if told := calls["TakeStone"]("ooo"); (1 <= n && n <= 3) == isFailure(told) {
			t.Errorf("TakeStone at %d: %s", n, told)
		}
		if told := calls["LeapAlong"]("ooo"); (1 <= n && n <= 3) == isFailure(told) {
			t.Errorf("LeapAlong by %d and 1: %s", n, told)
		}
	}
}

// Promise 11: no call panics, whatever rivers, leaps and numbers are put together.
func TestStoneCallsAreTotal(t *testing.T) {
	texts := append(noRivers(), ".", "o", ".o..o", strings.Repeat("o", 40), strings.Repeat(".", 40))
	for _, leap := range oddNumbers {
		for _, number := range oddNumbers {
			for name, call := range stoneCalls(leap, number) {
				for _, text := range texts {
					first, again := call(text), call(text)
					if first != again {
						t.Errorf("%s %q %d %d: %s, then %s", name, text, leap, number, first, again)
					}
				}
			}
		}
	}
}

// Promise 11: leaps given to LeapAlong stay as they are, and so does the room behind them.
func TestStoneArgumentsAreNotChanged(t *testing.T) {
	for _, leaps := range [][]int{{}, {2}, {2, 3, 1}, {2, 1}, {7}, {0, 5}, {math.MaxInt}, slices.Repeat([]int{1}, 42)} {
		given := withRoom(leaps)
		impl.LeapAlong(".o..o", given)
		impl.LeapAlong("no river", given)
		if !isUntouched(given, leaps) {
			t.Error("LeapAlong changes", leaps)
		}
	}
}

// Promise 11: a result is new memory, so that what is written to it is not seen in the next one.
func TestStoneResultsAreNew(t *testing.T) {
	calls := map[string]func() ([]int, bool){
		"StonesOf":      func() ([]int, bool) { return impl.StonesOf(".o..o") },
		"FirstCrossing": func() ([]int, bool) { return impl.FirstCrossing(".o..o", 3) },
		"NeededStones":  func() ([]int, bool) { return impl.NeededStones(".o..o", 3) },
		"IdleStones":    func() ([]int, bool) { return impl.IdleStones(".o..o", 2) },
		"StonesToAdd":   func() ([]int, bool) { return impl.StonesToAdd(".o..o", 1) },
		"LeapsLeft":     func() ([]int, bool) { return impl.LeapsLeft(".o..o", 3) },
	}
	wantNewLists(t, calls)
}
