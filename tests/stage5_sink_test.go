package tests

import (
	"fmt"
	"math"
	"slices"
	"strings"
	"testing"
	"unsafe"

	"loop.example/g01352/impl"
)

const exampleSunk = "213"

// strongOf returns a river of so many places that bear the same.
func strongOf(places, steps int) string { return strings.Repeat(fmt.Sprint(steps), places) }

// smallStrongs returns all strong rivers of 1 up to most places with some digits.
func smallStrongs(most int, digits string) []string {
	var all []string
	longest := []string{""}
	for range most {
		var longer []string
		for _, strong := range longest {
			for _, digit := range digits {
				longer = append(longer, strong+string(digit))
			}
		}
		all, longest = append(all, longer...), longer
	}
	return all
}

// mixedStrong returns a strong river in which some places are water.
func mixedStrong(row *mixedRow, places, mostSteps int) string {
	strong := ""
	for range places {
		steps := 0
		if row.next(5) > 0 {
			steps = row.next(mostSteps + 1)
		}
		strong += fmt.Sprint(steps)
	}
	return strong
}

// eachDigit returns the strong river with other numbers of steps.
func eachDigit(strong string, change func(steps int) int) string {
	changed := ""
	for _, digit := range strong {
		changed += fmt.Sprint(change(int(digit - '0')))
	}
	return changed
}

func wornByHand(strong string) string {
	return eachDigit(strong, func(steps int) int { return max(steps-1, 0) })
}

func sunkRiverByHand(strong string) string {
	river := strings.ReplaceAll(strong, "0", ".")
	for _, digit := range "123456789" {
		river = strings.ReplaceAll(river, string(digit), "o")
	}
	return river
}

// behindByHand goes along a list of any numbers, one place after the other. It fails if it is no crossing.
func behindByHand(strong string, leap int, places []int) (string, bool) {
	left := []byte("9" + strong + "9")
	if len(places) == 0 || places[0] != 0 {
		return "", false
	}
	at := 0
	for _, to := range places[1:] {
		if to <= at || to >= len(left) || to-at > leap || left[to] == '0' {
			return "", false
		}
		left[to]--
		at = to
	}
	if at != len(strong)+1 {
		return "", false
	}
	return string(left[1 : len(left)-1]), true
}

// behindAllByHand goes along all lists, one after the other.
func behindAllByHand(strong string, leap int, list [][]int) (string, bool) {
	for _, places := range list {
		behind, ok := behindByHand(strong, leap, places)
		if !ok {
			return "", false
		}
		strong = behind
	}
	return strong, true
}

// sinkSearch lets people cross in every way. It keeps in mind how many can cross at most.
type sinkSearch struct {
	leap  int
	known map[string]int
}

func (s sinkSearch) most(strong string) int {
	if n, isKnown := s.known[strong]; isKnown {
		return n
	}
	most := 0
	for _, crossing := range crossingsByHand(sunkRiverByHand(strong), s.leap) {
		behind, _ := behindByHand(strong, s.leap, crossing)
		most = max(most, 1+s.most(behind))
	}
	s.known[strong] = most
	return most
}

// sinkFlow is room for people on a river: a place p is entered at 2p and left at 2p + 1.
type sinkFlow struct {
	room [2*impl.MaxSunk + 4][2*impl.MaxSunk + 4]int
	seen [2*impl.MaxSunk + 4]bool
	goal int
}

// sendOne leads one more from here to the goal, perhaps in place of others who are led elsewhere.
func (f *sinkFlow) sendOne(here int) bool {
	if here == f.goal {
		return true
	}
	f.seen[here] = true
	for next := range f.room[here] {
		if f.room[here][next] > 0 && !f.seen[next] && f.sendOne(next) {
			f.room[here][next]--
			f.room[next][here]++
			return true
		}
	}
	return false
}

// flowByHand returns how many can cross, sent one by one until no one can be led over.
func flowByHand(strong string, leap int) int {
	far := len(strong) + 1
	f := &sinkFlow{goal: 2 * far}
	for from := range far {
		f.room[2*from][2*from+1] = 1000
		if from > 0 {
			f.room[2*from][2*from+1] = int(strong[from-1] - '0')
		}
		for to := from + 1; to <= min(from+leap, far); to++ {
			f.room[2*from+1][2*to] = 1000
		}
	}
	count := 0
	for f.sendOne(0) {
		count++
		clear(f.seen[:])
	}
	return count
}

// narrowestByHand returns the least sum and where it begins, told by all sums.
func narrowestByHand(strong string, leap int) (int, int) {
	var sums []int
	for first := 0; first+leap <= len(strong); first++ {
		sum := 0
		for _, digit := range strong[first : first+leap] {
			sum += int(digit - '0')
		}
		sums = append(sums, sum)
	}
	least := slices.Min(sums)
	return least, slices.Index(sums, least) + 1
}

// firstStrongByHand goes on leap by leap with the first way to each place.
func firstStrongByHand(strong string, leap int) []int {
	far := len(strong) + 1
	for ways := [][]int{{0}}; len(ways) > 0; {
		var longer [][]int
		isReached := map[int]bool{}
		for _, way := range ways {
			at := way[len(way)-1]
			for to := at + 1; to <= min(at+leap, far); to++ {
				if isReached[to] || to < far && strong[to-1] == '0' {
					continue
				}
				isReached[to] = true
				longer = append(longer, append(slices.Clone(way), to))
			}
		}
		for _, way := range longer {
			if way[len(way)-1] == far {
				return way
			}
		}
		ways = longer
	}
	return nil
}

// planByHand deals the steps out to the members in turn, as cards are dealt.
func planByHand(strong string, group int) [][]int {
	plan := make([][]int, group)
	for member := range plan {
		plan[member] = []int{0}
	}
	turn := 0
	for i, digit := range strong {
		for range min(int(digit-'0'), group) {
			plan[turn%group] = append(plan[turn%group], i+1)
			turn++
		}
	}
	for member := range plan {
		plan[member] = append(plan[member], len(strong)+1)
	}
	return plan
}

// hoursByHand wears all stones until nobody can cross.
func hoursByHand(strong string, leap int) int {
	hours := 0
	for firstStrongByHand(strong, leap) != nil {
		strong = wornByHand(strong)
		hours++
	}
	return hours
}

// greedyByHand lets people cross until nobody can.
func greedyByHand(strong string, leap int) (string, int) {
	crossed := 0
	for {
		behind, ok := behindByHand(strong, leap, firstStrongByHand(strong, leap))
		if !ok {
			return strong, crossed
		}
		strong = behind
		crossed++
	}
}

// strengthenedByHand tries one step more at all places, and returns 0 if all bear as much as can be.
func strengthenedByHand(strong string, mostOf func(strong string) int) (int, int) {
	best, most := 0, -1
	for i, digit := range strong {
		if digit == '9' {
			continue
		}
		if n := mostOf(strong[:i] + string(digit+1) + strong[i+1:]); n > most {
			best, most = i+1, n
		}
	}
	return best, max(most, 0)
}

func isSamePlan(plan, other [][]int) bool { return slices.EqualFunc(plan, other, slices.Equal) }

// checkGroup looks at a group that can cross, or not: its plan must be crossings one after the other.
func checkGroup(t *testing.T, strong string, leap, group int, can bool) {
	t.Helper()
	what := fmt.Sprint(strong, " ", leap, " ", group)
	isSo, ok := impl.CanGroupCross(strong, leap, group)
	wantBool(t, "CanGroupCross "+what, can, isSo, ok)
	var want [][]int
	if can {
		want = planByHand(strong, group)
	}
	plan, ok := impl.PlanOfGroup(strong, leap, group)
	if !isSamePlan(plan, want) || ok != can {
		t.Errorf("PlanOfGroup %s: %v %v, want %v %v", what, plan, ok, want, can)
	}
	behind, isPlan := behindAllByHand(strong, leap, want)
	if !isPlan {
		t.Errorf("PlanOfGroup %s: no crossings one after the other: %v", what, want)
	}
	got, ok := impl.BehindAll(strong, leap, want)
	wantTextOr(t, "BehindAll "+what, true, behind, got, ok)
	if can && group < impl.MaxGroup {
		checkBehindAll(t, strong, leap, append(want, firstStrongByHand(strong, leap)))
	}
}

func checkBehindAll(t *testing.T, strong string, leap int, list [][]int) {
	t.Helper()
	want, exists := behindAllByHand(strong, leap, list)
	got, ok := impl.BehindAll(strong, leap, list)
	wantTextOr(t, fmt.Sprint("BehindAll ", strong, " ", leap, " ", list), exists, want, got, ok)
}

func checkCrossing(t *testing.T, strong string, leap int, places []int) {
	t.Helper()
	what := fmt.Sprint(strong, " ", leap, " ", places)
	want, exists := behindByHand(strong, leap, places)
	is, ok := impl.IsCrossing(strong, leap, places)
	wantBool(t, "IsCrossing "+what, exists, is, ok)
	behind, ok := impl.BehindCrossing(strong, leap, places)
	wantTextOr(t, "BehindCrossing "+what, exists, want, behind, ok)
	checkBehindAll(t, strong, leap, [][]int{places})
	checkBehindAll(t, strong, leap, [][]int{places, places})
}

// checkSunk compares what is told with leaps. By mostOf it is known how many can cross at most, unless leaps are longer than the river.
func checkSunk(t *testing.T, strong string, leap int, mostOf func(strong string) int) {
	t.Helper()
	what := fmt.Sprint(strong, " ", leap)
	first := firstStrongByHand(strong, leap)
	crossing, ok := impl.FirstStrongCrossing(strong, leap)
	wantListOr(t, "FirstStrongCrossing "+what, first != nil, first, crossing, ok)
	checkCrossing(t, strong, leap, first)
	most, isShort := impl.MaxGroup, leap <= len(strong)
	if isShort {
		most = mostOf(strong)
		checkShortLeaps(t, what, strong, leap, mostOf)
	} else {
		checkLongLeaps(t, what, strong, leap)
	}
	for _, group := range []int{1, 2, most - 1, most, most + 1, impl.MaxGroup} {
		if 1 <= group && group <= impl.MaxGroup {
			checkGroup(t, strong, leap, group, !isShort || group <= most)
		}
	}
}

func checkShortLeaps(t *testing.T, what, strong string, leap int, mostOf func(strong string) int) {
	t.Helper()
	n, ok := impl.MostWhoCross(strong, leap)
	wantInt(t, "MostWhoCross "+what, mostOf(strong), n, ok)
	sum, begins := narrowestByHand(strong, leap)
	n, first, ok := impl.NarrowestPart(strong, leap)
	wantTwo(t, "NarrowestPart "+what, true, sum, begins, n, first, ok)
	left, crossed := greedyByHand(strong, leap)
	behind, n, ok := impl.BehindGreedy(strong, leap)
	wantTextOr(t, "BehindGreedy "+what, true, left, behind, ok)
	wantInt(t, "BehindGreedy "+what, crossed, n, ok)
	place, most := strengthenedByHand(strong, mostOf)
	best, n, ok := impl.BestToStrengthen(strong, leap)
	wantTwo(t, "BestToStrengthen "+what, place > 0, place, most, best, n, ok)
	n, ok = impl.HoursToSink(strong, leap)
	wantInt(t, "HoursToSink "+what, hoursByHand(strong, leap), n, ok)
}

// checkLongLeaps requires that what leaps longer than the river have no result for fails.
func checkLongLeaps(t *testing.T, what, strong string, leap int) {
	t.Helper()
	n, ok := impl.MostWhoCross(strong, leap)
	wantIntOr(t, "MostWhoCross "+what, false, 0, n, ok)
	n, first, ok := impl.NarrowestPart(strong, leap)
	wantTwo(t, "NarrowestPart "+what, false, 0, 0, n, first, ok)
	behind, n, ok := impl.BehindGreedy(strong, leap)
	wantTextOr(t, "BehindGreedy "+what, false, "", behind, ok)
	wantIntOr(t, "BehindGreedy "+what, false, 0, n, ok)
	best, n, ok := impl.BestToStrengthen(strong, leap)
	wantTwo(t, "BestToStrengthen "+what, false, 0, 0, best, n, ok)
	n, ok = impl.HoursToSink(strong, leap)
	wantIntOr(t, "HoursToSink "+what, false, 0, n, ok)
}

// checkStrong compares what is told without leaps.
func checkStrong(t *testing.T, strong string) {
	t.Helper()
	if !impl.IsStrong(strong) {
		t.Error("IsStrong is false of", strong)
	}
	sum := 0
	eachDigit(strong, func(steps int) int { sum += steps; return steps })
	n, ok := impl.StepsLeft(strong)
	wantInt(t, "StepsLeft "+strong, sum, n, ok)
	river, ok := impl.RiverOf(strong)
	wantText(t, "RiverOf "+strong, sunkRiverByHand(strong), river, ok)
	worn, ok := impl.WearAll(strong)
	wantText(t, "WearAll "+strong, wornByHand(strong), worn, ok)
	turned := ""
	for _, digit := range strong {
		turned = string(digit) + turned
	}
	mirrored, ok := impl.MirrorStrong(strong)
	wantText(t, "MirrorStrong "+strong, turned, mirrored, ok)
	for place := range len(strong) + 3 {
		for by := range impl.MaxStrong + 3 {
			checkStronger(t, strong, place-1, by-1)
		}
	}
}

func checkStronger(t *testing.T, strong string, place, by int) {
	t.Helper()
	want, exists := "", 1 <= place && place <= len(strong) && by >= 1
	if exists {
		steps := int(strong[place-1]-'0') + by
		want, exists = strong[:place-1]+fmt.Sprint(steps)+strong[place:], steps <= 9
	}
	got, ok := impl.MakeStronger(strong, place, by)
	wantTextOr(t, fmt.Sprint("MakeStronger ", strong, " ", place, " ", by), exists, want, got, ok)
}

// checkLeapsForGroups looks for the least leaps of groups. By mostOf it is known how many can cross at most by leaps that are not longer than the river.
func checkLeapsForGroups(t *testing.T, strong string, mostOf func(leap int) int) {
	t.Helper()
	for _, group := range []int{1, 2, 3, 5, 9, 10, 18, 30, 60, 99, impl.MaxGroup} {
		want := 1
		for want <= len(strong) && mostOf(want) < group {
			want++
		}
		leap, ok := impl.LeapForGroup(strong, group)
		wantInt(t, fmt.Sprint("LeapForGroup ", strong, " ", group), want, leap, ok)
	}
}

func TestSinkExample(t *testing.T) {
	most, ok := impl.MostWhoCross(exampleSunk, 2)
	wantInt(t, "MostWhoCross", 3, most, ok)
	sum, first, ok := impl.NarrowestPart(exampleSunk, 2)
	wantTwo(t, "NarrowestPart", true, 3, 1, sum, first, ok)
	plan, ok := impl.PlanOfGroup(exampleSunk, 2, 3)
	if !isSamePlan(plan, [][]int{{0, 1, 3, 4}, {0, 1, 3, 4}, {0, 2, 3, 4}}) || !ok {
		t.Error("PlanOfGroup", plan, ok)
	}
	crossing, ok := impl.FirstStrongCrossing(exampleSunk, 2)
	wantList(t, "FirstStrongCrossing", []int{0, 2, 4}, crossing, ok)
	behind, ok := impl.BehindCrossing(exampleSunk, 2, crossing)
	wantText(t, "BehindCrossing", "203", behind, ok)
	is, ok := impl.IsCrossing(behind, 2, []int{0, 1, 3, 4})
	wantBool(t, "IsCrossing", true, is, ok)
	is, ok = impl.IsCrossing(behind, 2, crossing)
	wantBool(t, "IsCrossing again", false, is, ok)
	left, crossed, ok := impl.BehindGreedy(exampleSunk, 2)
	wantText(t, "BehindGreedy", "001", left, ok)
	wantInt(t, "BehindGreedy", 3, crossed, ok)
	leap, ok := impl.LeapForGroup(exampleSunk, 2)
	wantInt(t, "LeapForGroup 2", 2, leap, ok)
	leap, ok = impl.LeapForGroup(exampleSunk, 7)
	wantInt(t, "LeapForGroup 7", 4, leap, ok)
	place, most, ok := impl.BestToStrengthen(exampleSunk, 2)
	wantTwo(t, "BestToStrengthen", true, 1, 4, place, most, ok)
	hours, ok := impl.HoursToSink(exampleSunk, 2)
	wantInt(t, "HoursToSink", 2, hours, ok)
	steps, ok := impl.StepsLeft(exampleSunk)
	wantInt(t, "StepsLeft", 6, steps, ok)
}

// Promise 5: on small rivers as many can cross as the narrowest part bears, told by letting people cross in every way.
func TestSmallStrongRivers(t *testing.T) {
	rivers := append(smallStrongs(4, "0123"), smallStrongs(5, "012")...)
	rivers = append(rivers, smallStrongs(2, "0123456789")...)
	searches := map[int]sinkSearch{}
	for leap := 1; leap <= impl.MaxSunk+1; leap++ {
		searches[leap] = sinkSearch{leap, map[string]int{}}
	}
	for _, strong := range rivers {
		checkStrong(t, strong)
		for _, leap := range []int{1, 2, 3, 4, 5, 6, impl.MaxSunk, impl.MaxSunk + 1} {
			checkSunk(t, strong, leap, searches[leap].most)
			all := crossingsByHand(sunkRiverByHand(strong), leap)
			if best := fewestByHand(all); !slices.Equal(best, firstStrongByHand(strong, leap)) {
				t.Error("the first crossing is told wrongly:", strong, leap, best)
			}
		}
		checkLeapsForGroups(t, strong, func(leap int) int { return searches[leap].most(strong) })
	}
}

// Promise 5: on longer rivers as many can cross as the narrowest part bears, told by people who are sent over one by one.
func TestMixedStrongRivers(t *testing.T) {
	row := &mixedRow{5}
	for i := range 90 {
		strong := mixedStrong(row, 1+row.next(impl.MaxSunk), 1+row.next(impl.MaxStrong))
		if i%3 == 0 {
			strong = mixedStrong(row, impl.MaxSunk-i%2, impl.MaxStrong)
		}
		checkStrong(t, strong)
		for _, leap := range []int{1, 2, 3, 5, 8, len(strong) - 1, len(strong), len(strong) + 1, 1 + row.next(impl.MaxSunk+1)} {
			if 1 <= leap && leap <= impl.MaxSunk+1 {
				checkSunk(t, strong, leap, func(strong string) int { return flowByHand(strong, leap) })
			}
		}
		checkLeapsForGroups(t, strong, func(leap int) int { return flowByHand(strong, leap) })
	}
}

// listsOf returns all lists of up to most of some numbers.
func listsOf(most int, numbers ...int) [][]int {
	all := [][]int{nil}
	last := all
	for range most {
		var longer [][]int
		for _, list := range last {
			for _, n := range numbers {
				longer = append(longer, append(slices.Clone(list), n))
			}
		}
		all, last = append(all, longer...), longer
	}
	return all
}

// Promise 5: crossings are told apart from all other lists of places.
func TestListsThatAreCrossings(t *testing.T) {
	for _, places := range append(listsOf(5, 0, 1, 2, 3, 4), listsOf(4, -1, 0, 1, 2, 3)...) {
		for _, strong := range []string{"1", "0", "11", "20", "01", "00", "12", "101", "213"} {
			for _, leap := range []int{1, 2, 3, impl.MaxSunk + 1} {
				is, ok := impl.IsCrossing(strong, leap, places)
				all := crossingsByHand(sunkRiverByHand(strong), leap)
				isIn := slices.ContainsFunc(all, func(crossing []int) bool { return slices.Equal(crossing, places) })
				wantBool(t, fmt.Sprint("IsCrossing ", strong, " ", leap, " ", places), isIn, is, ok)
				checkCrossing(t, strong, leap, places)
			}
		}
	}
	for _, places := range [][]int{
		{0, math.MaxInt}, {math.MinInt, 4}, {0, math.MinInt, 4}, {0, 1, math.MinInt, 4}, {0, 1, math.MaxInt, 4}, {0, math.MaxInt, math.MinInt, 4}, {math.MinInt}, {math.MaxInt}, {0, 1, math.MinInt + 1, 2, 3, 4}, {0, 3, math.MinInt + 3, 4},
		make([]int, 100000), slices.Repeat([]int{0, 1, 2, 3, 4}, 20000), append(slices.Repeat([]int{0}, 100000), 4),
	} {
		for _, leap := range []int{1, 2, 4, impl.MaxSunk + 1} {
			is, ok := impl.IsCrossing(exampleSunk, leap, places)
			wantBool(t, fmt.Sprintf("IsCrossing %.40s", fmt.Sprint(places)), false, is, ok)
			behind, ok := impl.BehindCrossing(exampleSunk, leap, places)
			wantTextOr(t, fmt.Sprintf("BehindCrossing %.40s", fmt.Sprint(places)), false, "", behind, ok)
			behind, ok = impl.BehindAll(exampleSunk, leap, [][]int{{0, 1, 3, 4}, places})
			wantTextOr(t, fmt.Sprintf("BehindAll %.40s", fmt.Sprint(places)), false, "", behind, ok)
		}
	}
}

// Promise 5: crossings one after the other, of which one may go over a place that bears no step any more.
func TestListsOfCrossings(t *testing.T) {
	for _, strong := range []string{"1", "2", "11", "12", "21", "102", "213"} {
		for _, leap := range []int{1, 2, 3, 4} {
			all := append(crossingsByHand(sunkRiverByHand(strong), leap), []int{0, 1}, nil)
			for _, part := range listsOf(4, firstNumbers(len(all))...) {
				var list [][]int
				for _, i := range part {
					list = append(list, all[i])
				}
				checkBehindAll(t, strong, leap, list)
			}
		}
	}
	behind, ok := impl.BehindAll("1", 1, [][]int{{0, 1, 2}, {0, 1, 2}})
	wantTextOr(t, "BehindAll over a place that bears no step any more", false, "", behind, ok)
	behind, ok = impl.BehindAll("1", 2, [][]int{{0, 1, 2}, {0, 2}})
	wantTextOr(t, "BehindAll over it", true, "0", behind, ok)
	for _, list := range [][][]int{nil, {}} {
		for _, strong := range []string{"0", "1", exampleSunk, strongOf(impl.MaxSunk, impl.MaxStrong)} {
			behind, ok := impl.BehindAll(strong, 1, list)
			wantTextOr(t, "BehindAll of no crossings", true, strong, behind, ok)
		}
	}
}

func firstNumbers(n int) []int {
	numbers := make([]int, n)
	for i := range numbers {
		numbers[i] = i
	}
	return numbers
}

// Promise 5: groups up to MaxGroup, and lists of as many crossings, but of no more.
func TestGreatestGroups(t *testing.T) {
	full := strongOf(impl.MaxSunk, impl.MaxStrong)
	// 11 places bear 99 steps, 12 bear 108.
	for leap, can := range map[int]bool{1: false, 10: false, 11: false, 12: true, impl.MaxSunk: true, impl.MaxSunk + 1: true} {
		checkGroup(t, full, leap, impl.MaxGroup, can)
		if can {
			continue
		}
		checkGroup(t, full, leap, leap*impl.MaxStrong, true)
		checkGroup(t, full, leap, leap*impl.MaxStrong+1, false)
	}
	leap, ok := impl.LeapForGroup(full, impl.MaxGroup)
	wantInt(t, "LeapForGroup of MaxGroup", 12, leap, ok)
	leap, ok = impl.LeapForGroup(full, impl.MaxGroup-1)
	wantInt(t, "LeapForGroup of one less", 11, leap, ok)
	for range 30 {
		checkBehindAll(t, full, impl.MaxSunk, planByHand(full, impl.MaxGroup))
	}
	over := []int{0, impl.MaxSunk + 1}
	checkBehindAll(t, full, impl.MaxSunk+1, slices.Repeat([][]int{over}, impl.MaxGroup))
	checkBehindAll(t, full, impl.MaxSunk+1, append(slices.Repeat([][]int{over}, impl.MaxGroup-1), []int{0}))
	for _, members := range []int{impl.MaxGroup + 1, impl.MaxGroup + 2, 100000} {
		behind, ok := impl.BehindAll(full, impl.MaxSunk+1, slices.Repeat([][]int{over}, members))
		wantTextOr(t, fmt.Sprint("BehindAll of ", members), false, "", behind, ok)
	}
}

// Promise 5: no stone bears a step too much, however many set out over it.
func TestManyOverOneStone(t *testing.T) {
	for steps := 1; steps <= impl.MaxStrong; steps++ {
		strong := "99" + fmt.Sprint(steps) + "99"
		crossing := []int{0, 3, 6}
		for members := 1; members <= impl.MaxGroup; members++ {
			want := "99" + fmt.Sprint(max(steps-members, 0)) + "99"
			behind, ok := impl.BehindAll(strong, 3, slices.Repeat([][]int{crossing}, members))
			wantTextOr(t, fmt.Sprint("BehindAll ", strong, " of ", members), members <= steps, want, behind, ok)
		}
	}
}

func TestGroupOfOne(t *testing.T) {
	plan, ok := impl.PlanOfGroup(exampleSunk, 2, 1)
	if !isSamePlan(plan, [][]int{{0, 1, 2, 3, 4}}) || !ok {
		t.Error("PlanOfGroup of one", plan, ok)
	}
	for _, strong := range []string{"1", "9", "1111", "9010", "0900", strongOf(impl.MaxSunk, 1)} {
		leap, ok := impl.LeapForGroup(strong, 1)
		least := 1
		for firstStrongByHand(strong, least) == nil {
			least++
		}
		wantInt(t, "LeapForGroup of one "+strong, least, leap, ok)
		checkGroup(t, strong, least, 1, true)
		if least > 1 {
			checkGroup(t, strong, least-1, 1, false)
		}
	}
}

func TestRiverOfOneStone(t *testing.T) {
	for steps := range impl.MaxStrong + 1 {
		strong := fmt.Sprint(steps)
		checkStrong(t, strong)
		for leap := 1; leap <= impl.MaxSunk+1; leap++ {
			checkSunk(t, strong, leap, func(strong string) int { return int(strong[0] - '0') })
		}
	}
	place, most, ok := impl.BestToStrengthen("0", 1)
	wantTwo(t, "BestToStrengthen 0", true, 1, 1, place, most, ok)
	place, most, ok = impl.BestToStrengthen("9", 1)
	wantTwo(t, "BestToStrengthen 9", false, 0, 0, place, most, ok)
}

// Water alone is crossed by leaps longer than the river, and by no others.
func TestWaterAlone(t *testing.T) {
	for places := 1; places <= impl.MaxSunk; places++ {
		water := strongOf(places, 0)
		checkStrong(t, water)
		for leap := 1; leap <= impl.MaxSunk+1; leap++ {
			checkSunk(t, water, leap, func(strong string) int { return flowByHand(strong, leap) })
			crossing, ok := impl.FirstStrongCrossing(water, leap)
			wantListOr(t, fmt.Sprint("FirstStrongCrossing ", water, " ", leap), leap > places, []int{0, places + 1}, crossing, ok)
		}
		for _, group := range []int{1, impl.MaxGroup} {
			leap, ok := impl.LeapForGroup(water, group)
			wantInt(t, "LeapForGroup "+water, places+1, leap, ok)
			plan, ok := impl.PlanOfGroup(water, places+1, group)
			if !isSamePlan(plan, slices.Repeat([][]int{{0, places + 1}}, group)) || !ok {
				t.Error("PlanOfGroup", water, plan, ok)
			}
		}
	}
}

// Leaps that are longer than the river need no stone, but a plan goes over those there are.
func TestLeapsLongerThanStrongRiver(t *testing.T) {
	for _, strong := range []string{"1", "0", exampleSunk, "000", "909", strongOf(impl.MaxSunk-1, 3), strongOf(impl.MaxSunk, 0), strongOf(impl.MaxSunk, impl.MaxStrong)} {
		far := len(strong) + 1
		for leap := far; leap <= impl.MaxSunk+1; leap++ {
			checkLongLeaps(t, fmt.Sprint(strong, " ", leap), strong, leap)
			crossing, ok := impl.FirstStrongCrossing(strong, leap)
			wantList(t, "FirstStrongCrossing "+strong, []int{0, far}, crossing, ok)
			behind, ok := impl.BehindCrossing(strong, leap, []int{0, far})
			wantText(t, "BehindCrossing "+strong, strong, behind, ok)
			for _, group := range []int{1, 7, impl.MaxGroup} {
				checkGroup(t, strong, leap, group, true)
			}
		}
		checkSunk(t, strong, far-1, func(strong string) int { return sumByHand(digitsOf(strong)) })
	}
	plan, ok := impl.PlanOfGroup(exampleSunk, 4, 7)
	if !isSamePlan(plan, [][]int{{0, 1, 4}, {0, 1, 4}, {0, 2, 4}, {0, 3, 4}, {0, 3, 4}, {0, 3, 4}, {0, 4}}) || !ok {
		t.Error("PlanOfGroup of 7", plan, ok)
	}
}

func digitsOf(strong string) []int {
	var digits []int
	eachDigit(strong, func(steps int) int { digits = append(digits, steps); return steps })
	return digits
}

// Of several parts with the least sum the first one is told.
func TestSeveralNarrowestParts(t *testing.T) {
	cases := []struct {
		strong     string
		leap       int
		sum, first int
	}{
		{"111", 1, 1, 1}, {"2121", 1, 1, 2}, {"2121", 2, 3, 1}, {"9009009", 2, 0, 2}, {"9009009", 1, 0, 2}, {"9009009", 3, 9, 1}, {"3210123", 3, 2, 3}, {"5005", 4, 10, 1}, {"0550", 1, 0, 1}, {"9990", 1, 0, 4}, {"9900", 2, 0, 3},
		{strongOf(impl.MaxSunk, impl.MaxStrong), 7, 63, 1}, {strongOf(impl.MaxSunk-1, 5) + "4", 7, 34, 14}, {strongOf(impl.MaxSunk-1, 5) + "4", impl.MaxSunk, 99, 1},
	}
	for _, c := range cases {
		sum, first, ok := impl.NarrowestPart(c.strong, c.leap)
		wantTwo(t, fmt.Sprint("NarrowestPart ", c.strong, " ", c.leap), true, c.sum, c.first, sum, first, ok)
		most, ok := impl.MostWhoCross(c.strong, c.leap)
		wantInt(t, fmt.Sprint("MostWhoCross ", c.strong, " ", c.leap), c.sum, most, ok)
	}
}

func TestPlacesToStrengthen(t *testing.T) {
	cases := []struct {
		strong      string
		leap        int
		place, most int
	}{
		{"213", 2, 1, 4}, {"312", 2, 2, 4}, {"111", 1, 1, 1}, {"211", 1, 1, 1}, {"919", 1, 2, 2}, {"990", 1, 3, 1}, {"909", 2, 2, 10}, {"000", 1, 1, 0}, {"000", 2, 2, 1}, {"000", 3, 1, 1}, {"0000", 2, 1, 0}, {"998", 1, 3, 9}, {"989", 2, 2, 18}, {"899", 3, 1, 27}, {"9998", 2, 4, 18}, {"9911", 1, 3, 1},
		{"9909909", 1, 3, 0}, {"12121", 3, 3, 5}, {"9" + strongOf(18, 9) + "8", 10, 20, 90},
	}
	for _, c := range cases {
		place, most, ok := impl.BestToStrengthen(c.strong, c.leap)
		wantTwo(t, fmt.Sprint("BestToStrengthen ", c.strong, " ", c.leap), true, c.place, c.most, place, most, ok)
	}
	for places := 1; places <= impl.MaxSunk; places++ {
		for leap := 1; leap <= impl.MaxSunk+1; leap++ {
			place, most, ok := impl.BestToStrengthen(strongOf(places, impl.MaxStrong), leap)
			wantTwo(t, fmt.Sprint("BestToStrengthen where all bear the most ", places, " ", leap), false, 0, 0, place, most, ok)
		}
	}
}

func TestEveryStoneBearsMaxStrong(t *testing.T) {
	full := strongOf(impl.MaxSunk, impl.MaxStrong)
	checkStrong(t, full)
	steps, ok := impl.StepsLeft(full)
	wantInt(t, "StepsLeft", 180, steps, ok)
	worn, ok := impl.WearAll(full)
	wantText(t, "WearAll", strongOf(impl.MaxSunk, impl.MaxStrong-1), worn, ok)
	for leap := 1; leap <= impl.MaxSunk; leap++ {
		most, ok := impl.MostWhoCross(full, leap)
		wantInt(t, fmt.Sprint("MostWhoCross ", leap), leap*impl.MaxStrong, most, ok)
		hours, ok := impl.HoursToSink(full, leap)
		wantInt(t, fmt.Sprint("HoursToSink ", leap), impl.MaxStrong, hours, ok)
		checkSunk(t, full, leap, func(strong string) int { return flowByHand(strong, leap) })
	}
	behind, crossed, ok := impl.BehindGreedy(full, impl.MaxSunk)
	wantText(t, "BehindGreedy", strongOf(impl.MaxSunk, 0), behind, ok)
	wantInt(t, "BehindGreedy", 180, crossed, ok)
}

func TestHoursToSink(t *testing.T) {
	for steps := range impl.MaxStrong + 1 {
		digit := fmt.Sprint(steps)
		cases := []struct {
			strong      string
			leap, hours int
		}{
			{digit, 1, steps}, {"9" + digit + "9", 1, steps}, {"9" + digit + "9", 2, 9}, {"0" + digit + "0", 2, steps}, {digit + "0" + digit, 2, steps}, {digit + "0" + digit, 3, steps}, {digit + "00" + digit, 2, 0}, {strongOf(impl.MaxSunk, steps), 1, steps}, {strongOf(impl.MaxSunk, steps), impl.MaxSunk, steps},
		}
		for _, c := range cases {
			hours, ok := impl.HoursToSink(c.strong, c.leap)
			wantInt(t, fmt.Sprint("HoursToSink ", c.strong, " ", c.leap), c.hours, hours, ok)
		}
	}
}

func TestJoinedStrongRivers(t *testing.T) {
	for _, a := range smallStrongs(3, "019") {
		for _, b := range smallStrongs(3, "029") {
			joined, ok := impl.JoinStrong(a, b)
			wantText(t, "JoinStrong "+a+" "+b, a+b, joined, ok)
		}
	}
	for n := 1; n < impl.MaxSunk; n++ {
		a, b := strongOf(n, 3), strongOf(impl.MaxSunk-n, 7)
		joined, ok := impl.JoinStrong(a, b)
		wantTextOr(t, "JoinStrong up to MaxSunk", true, a+b, joined, ok)
		for _, more := range [][2]string{{a + "3", b}, {a, b + "7"}} {
			joined, ok := impl.JoinStrong(more[0], more[1])
			wantTextOr(t, fmt.Sprint("JoinStrong of too many places ", more), false, "", joined, ok)
		}
	}
	full := strongOf(impl.MaxSunk, impl.MaxStrong)
	joined, ok := impl.JoinStrong(full, full)
	wantTextOr(t, "JoinStrong of twice MaxSunk", false, "", joined, ok)
}

// noStrongs returns texts that are no strong rivers.
func noStrongs() []string {
	return []string{
		"", strongOf(impl.MaxSunk+1, 1), strongOf(impl.MaxSunk+1, 0), strongOf(100000, 9), "o", ".", ".o..o", "a", "21a", "a21", "2a1", "2 1", " 21", "21 ", "21\n", "\n", "\x00", "2\x001", "-1", "+1", "1-1", "2,1", "2.1", "1e1", "0x1", "1_1",
		"/", ":", "2/1", "2:1", "٣", "３", "²", "2\xff1", "\xff", "2\x801", "²13", "21³",
	}
}

// sinkNumbers are what calls are given beside a strong river, each in its bounds unless a test sets it otherwise.
type sinkNumbers struct {
	leap, group, place, by int
	places                 []int
	list                   [][]int
}

func goodSinkNumbers() sinkNumbers {
	return sinkNumbers{2, 2, 1, 1, []int{0, 1, 3, 4}, [][]int{{0, 1, 3, 4}, {0, 2, 4}}}
}

// sinkCalls returns all calls of chapter 5 with a strong river, told by the results that should be zero if it fails.
func sinkCalls(strong string, n sinkNumbers) map[string]string {
	told := map[string]string{}
	tell := func(name string, isZero, ok bool, results ...any) {
		if told[name] = fmt.Sprintf("%q %v", results, ok); isZero {
			told[name] = fmt.Sprint(0, ok)
		}
	}
	number := func(name string, k int, ok bool) { tell(name, k == 0, ok, k) }
	two := func(name string, k, m int, ok bool) { tell(name, k == 0 && m == 0, ok, k, m) }
	text := func(name, s string, ok bool) { tell(name, s == "", ok, s) }
	k, ok := impl.StepsLeft(strong)
	number("StepsLeft", k, ok)
	s, ok := impl.RiverOf(strong)
	text("RiverOf", s, ok)
	s, ok = impl.BehindCrossing(strong, n.leap, n.places)
	text("BehindCrossing", s, ok)
	s, ok = impl.BehindAll(strong, n.leap, n.list)
	text("BehindAll", s, ok)
	is, ok := impl.IsCrossing(strong, n.leap, n.places)
	told["IsCrossing"] = fmt.Sprint(is, ok)
	k, ok = impl.MostWhoCross(strong, n.leap)
	number("MostWhoCross", k, ok)
	k, m, ok := impl.NarrowestPart(strong, n.leap)
	two("NarrowestPart", k, m, ok)
	is, ok = impl.CanGroupCross(strong, n.leap, n.group)
	told["CanGroupCross"] = fmt.Sprint(is, ok)
	k, ok = impl.LeapForGroup(strong, n.group)
	number("LeapForGroup", k, ok)
	list, ok := impl.FirstStrongCrossing(strong, n.leap)
	tell("FirstStrongCrossing", len(list) == 0, ok, list)
	plan, ok := impl.PlanOfGroup(strong, n.leap, n.group)
	tell("PlanOfGroup", len(plan) == 0, ok, plan)
	s, k, ok = impl.BehindGreedy(strong, n.leap)
	tell("BehindGreedy", s == "" && k == 0, ok, s, k)
	s, ok = impl.MakeStronger(strong, n.place, n.by)
	text("MakeStronger", s, ok)
	k, m, ok = impl.BestToStrengthen(strong, n.leap)
	two("BestToStrengthen", k, m, ok)
	s, ok = impl.WearAll(strong)
	text("WearAll", s, ok)
	k, ok = impl.HoursToSink(strong, n.leap)
	number("HoursToSink", k, ok)
	s, ok = impl.MirrorStrong(strong)
	text("MirrorStrong", s, ok)
	s, ok = impl.JoinStrong(strong, "1")
	text("JoinStrong", s, ok)
	s, ok = impl.JoinStrong("1", strong)
	text("JoinStrong behind", s, ok)
	return told
}

// Promise 11: texts that are no strong rivers make all calls fail with zero values.
func TestTextsThatAreNoStrongRivers(t *testing.T) {
	good := sinkCalls(exampleSunk, goodSinkNumbers())
	requireFailures(t, exampleSunk, good)
	var names []string
	for name := range good {
		names = append(names, name)
	}
	leapOver := sinkNumbers{impl.MaxSunk + 1, 1, 1, 1, []int{0, 1}, nil}
	for _, text := range noStrongs() {
		what := fmt.Sprintf("%.30q", text)
		if impl.IsStrong(text) {
			t.Error("IsStrong", what)
		}
		n := goodSinkNumbers()
		n.places = []int{0, len(text) + 1}
		n.list = [][]int{n.places}
		requireFailures(t, what, sinkCalls(text, n), names...)
		requireFailures(t, what, sinkCalls(text, goodSinkNumbers()), names...)
		requireFailures(t, what, sinkCalls(text, leapOver), names...)
	}
}

// Promise 11: leaps, groups, places and strengthenings out of their bounds make the calls with them fail with zero values, and no others.
func TestSinkNumbersOutOfBounds(t *testing.T) {
	// Nothing can be joined to a river of MaxSunk places.
	full := strongOf(impl.MaxSunk, 5)
	kinds := []struct {
		name        string
		least, most int
		set         func(n *sinkNumbers, to int)
		failing     []string
	}{
		{"leaps", 1, impl.MaxSunk, func(n *sinkNumbers, to int) { n.leap = to }, []string{"BehindCrossing", "BehindAll", "IsCrossing", "MostWhoCross", "NarrowestPart", "CanGroupCross", "FirstStrongCrossing", "PlanOfGroup", "BehindGreedy", "BestToStrengthen", "HoursToSink"}},
		{"a group", 1, impl.MaxGroup, func(n *sinkNumbers, to int) { n.group = to }, []string{"CanGroupCross", "LeapForGroup", "PlanOfGroup"}},
		{"a place", 1, impl.MaxSunk, func(n *sinkNumbers, to int) { n.place = to }, []string{"MakeStronger"}},
		{"by", 1, impl.MaxStrong - 5, func(n *sinkNumbers, to int) { n.by = to }, []string{"MakeStronger"}},
	}
	all := firstNumbers(impl.MaxSunk + 2)
	for _, kind := range kinds {
		for _, to := range append(oddNumbers, 3, 4, 5, 8, 9, 10, 19, 20, 21, 22, 99, 101) {
			n := sinkNumbers{impl.MaxSunk, 1, 1, 1, all, [][]int{all}}
			kind.set(&n, to)
			failing := kind.failing
			if kind.least <= to && to <= kind.most {
				failing = nil
			}
			if kind.name == "leaps" && to == impl.MaxSunk+1 {
				failing = []string{"MostWhoCross", "NarrowestPart", "BehindGreedy", "BestToStrengthen", "HoursToSink"}
			}
			requireFailures(t, fmt.Sprint(kind.name, " ", to), sinkCalls(full, n), append(failing, "JoinStrong", "JoinStrong behind")...)
		}
	}
	for _, by := range append(oddNumbers, 8, 9, 10) {
		stronger, ok := impl.MakeStronger("0", 1, by)
		wantTextOr(t, fmt.Sprint("MakeStronger by ", by), 1 <= by && by <= impl.MaxStrong, fmt.Sprint(by), stronger, ok)
	}
}

// Promise 11: lists that are no crossings, and those of more than MaxGroup, make just the calls with them fail, with zero values.
func TestSinkListsThatAreNone(t *testing.T) {
	for _, places := range [][]int{nil, {}, {0}, {4}, {0, 4}, {1, 3, 4}, {0, 1, 3}, {0, 1, 4}, {0, 3, 4}, {0, 2, 2, 4}, {0, 2, 1, 3, 4}, {0, 1, 3, 5}, {0, 1, 3, 4, 4}, {0, 0, 1, 3, 4}, {0, 1, 3, 4, 5}, {-1, 0, 1, 3, 4}, {4, 3, 1, 0}} {
		n := goodSinkNumbers()
		n.places = places
		told := sinkCalls(exampleSunk, n)
		if told["IsCrossing"] != "false true" || told["BehindCrossing"] != "0 false" {
			t.Error("no crossing:", places, told["IsCrossing"], told["BehindCrossing"])
		}
		requireFailures(t, fmt.Sprint("places ", places), told, "BehindCrossing")
		n = goodSinkNumbers()
		for _, list := range [][][]int{{places}, {places, n.places}, {n.places, places}, {n.places, places, n.places}} {
			n.list = list
			requireFailures(t, fmt.Sprint("list ", list), sinkCalls(exampleSunk, n), "BehindAll")
		}
	}
	n := goodSinkNumbers()
	for _, list := range [][][]int{slices.Repeat([][]int{n.places}, 3), slices.Repeat([][]int{n.places}, impl.MaxGroup), slices.Repeat([][]int{n.places}, impl.MaxGroup+1), make([][]int, impl.MaxGroup), make([][]int, 100000)} {
		n.list = list
		requireFailures(t, fmt.Sprint("a list of ", len(list)), sinkCalls(exampleSunk, n), "BehindAll")
	}
}

// Promise 11: rivers for which there are no results make just the calls for them fail.
func TestSinkCallsWithoutResults(t *testing.T) {
	cases := []struct {
		strong  string
		leap    int
		failing []string
	}{
		{"000", 2, []string{"BehindCrossing", "BehindAll", "FirstStrongCrossing", "PlanOfGroup"}},
		{"100", 2, []string{"BehindCrossing", "BehindAll", "FirstStrongCrossing", "PlanOfGroup"}},
		{"111", 1, []string{"BehindCrossing", "BehindAll", "PlanOfGroup"}},
		{"101", 2, []string{"BehindAll", "PlanOfGroup"}},
		{"999", 2, []string{"BestToStrengthen", "MakeStronger"}},
		{"000", 4, []string{"BehindCrossing", "BehindAll", "MostWhoCross", "NarrowestPart", "BehindGreedy", "BestToStrengthen", "HoursToSink"}},
		{"999", 4, []string{"MostWhoCross", "NarrowestPart", "BehindGreedy", "BestToStrengthen", "HoursToSink", "MakeStronger"}},
	}
	for _, c := range cases {
		n := goodSinkNumbers()
		n.leap = c.leap
		requireFailures(t, fmt.Sprint(c.strong, " ", c.leap), sinkCalls(c.strong, n), c.failing...)
	}
}

// Promise 11: no call panics, whatever is put together, and no call changes a later one, however its members run.
func TestSinkCallsAreTotal(t *testing.T) {
	texts := append(noStrongs(), "0", "9", exampleSunk, "909", strongOf(impl.MaxSunk, 0), strongOf(impl.MaxSunk, impl.MaxStrong))
	for i, x := range oddNumbers {
		for k, y := range oddNumbers {
			n := sinkNumbers{x, y, x, y, []int{0, x, y, 4}, [][]int{{0, 1, 3, 4}, {x, y}, {y, 4}}}
			for _, text := range []string{texts[i%len(texts)], texts[(i+k)%len(texts)], exampleSunk, strongOf(impl.MaxSunk, impl.MaxStrong)} {
				first, again := sinkCalls(text, n), sinkCalls(text, n)
				for name, told := range first {
					if told != again[name] {
						t.Errorf("%s %.30q %v: %s, then %s", name, text, n, told, again[name])
					}
				}
			}
		}
	}
}

// Promise 11: lists stay as they are, and so does the room behind them.
func TestSinkArgumentsAreNotChanged(t *testing.T) {
	lists := [][]int{{}, {0}, {0, 4}, {0, 2, 4}, {0, 1, 3, 4}, {0, 1, 2, 3, 4}, {0, 3, 1, 4}, {0, 1, 3, 5}, {math.MinInt, math.MaxInt}}
	for _, strong := range []string{exampleSunk, "000", "100", "no river", ""} {
		for _, a := range lists {
			for _, b := range lists {
				n := goodSinkNumbers()
				n.places = withRoom(a)
				room := [][]int{withRoom(a), withRoom(b), {77}, {77}}
				n.list = room[:2]
				told := sinkCalls(strong, n)
				if !isUntouched(n.places, a) || !isUntouched(room[0], a) || !isUntouched(room[1], b) || !isSamePlan(room[2:], [][]int{{77}, {77}}) {
					t.Error("a call changes", strong, a, b)
				}
				n.places, n.list = slices.Clip(slices.Clone(a)), [][]int{slices.Clip(slices.Clone(a)), slices.Clip(slices.Clone(b))}
				for name, want := range sinkCalls(strong, n) {
					if told[name] != want {
						t.Errorf("%s %s %v %v with room: %s, want %s", name, strong, a, b, told[name], want)
					}
				}
			}
		}
	}
}

// Promise 11: lists that are returned are new memory, and no two of one result share any.
func TestSinkResultsAreNew(t *testing.T) {
	wantNewLists(t, map[string]func() ([]int, bool){
		"FirstStrongCrossing": func() ([]int, bool) { return impl.FirstStrongCrossing(exampleSunk, 2) },
	})
	wantNewRows(t, map[string]func() ([][]int, bool){
		"PlanOfGroup": func() ([][]int, bool) { return impl.PlanOfGroup(exampleSunk, 2, 3) },
	})
}

// Promise 11: a text that is returned is new memory even if it has the digits of the argument.
func TestStrongTextsAreNew(t *testing.T) {
	cases := map[string]func(strong string) (string, bool){
		"BehindAll":      func(strong string) (string, bool) { return impl.BehindAll(strong, 1, nil) },
		"BehindCrossing": func(strong string) (string, bool) { return impl.BehindCrossing(strong, 4, []int{0, 4}) },
		"WearAll":        impl.WearAll,
		"MirrorStrong":   impl.MirrorStrong,
		"BehindGreedy": func(strong string) (string, bool) {
			behind, crossed, ok := impl.BehindGreedy(strong, 1)
			return behind, ok && crossed == 0
		},
	}
	for name, call := range cases {
		given := strings.Clone("000")
		text, ok := call(given)
		if text != given || !ok || unsafe.StringData(text) == unsafe.StringData(given) {
			t.Errorf("%s hands out its argument, or another river: %q %v", name, text, ok)
		}
	}
}
