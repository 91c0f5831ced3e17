package tests

import (
	"fmt"
	"math"
	"math/big"
	"slices"
	"strconv"
	"strings"
	"testing"
	"unsafe"

	"loop.example/g01352/impl"
)

// spansByHand lays a rest, the gap and a rest one behind the other.
func spansByHand(gap, plank, rest int) bool { return rest+gap+rest <= plank }

// coveringsByHand returns all coverings in order: all lists of indices, but those with an index twice or a plank that is too short.
func coveringsByHand(gaps, planks []int, rest int) [][]int {
	all := [][]int{nil}
	for _, gap := range gaps {
		var longer [][]int
		for _, covering := range all {
			for i, plank := range planks {
				if spansByHand(gap, plank, rest) && !slices.Contains(covering, i) {
					longer = append(longer, append(slices.Clone(covering), i))
				}
			}
		}
		all = longer
	}
	return all
}

// joinedByHand lays planks one behind the other, each one back by the lap from the end of the one before.
func joinedByHand(planks []int, lap int) int {
	end := 0
	for i, plank := range planks {
		if i > 0 {
			end -= lap
		}
		end += plank
	}
	return end
}

// bestJoinedByHand returns the first one of the shortest lists of planks that span a gap, or nil.
func bestJoinedByHand(gap int, planks []int, rest, lap int) []int {
	var best []int
	for _, part := range partsOf(len(planks)) {
		if len(part) > 0 && spansByHand(gap, joinedByHand(picked(planks, part), lap), rest) && (best == nil || len(part) < len(best)) {
			best = part
		}
	}
	return best
}

func canJoinByHand(planks []int, lap int) bool {
	return !slices.ContainsFunc(planks, func(plank int) bool { return plank <= lap })
}

// gapsByHand cuts a river at its stones and leaps over the water of each piece.
func gapsByHand(river string, leap int) []int {
	var gaps []int
	for _, water := range strings.Split(river, "o") {
		if len(water)+1 > leap {
			gaps = append(gaps, len(water)+1)
		}
	}
	return gaps
}

// plankLists returns all lists of 1 up to most lengths in 1..longest.
func plankLists(most, longest int) [][]int {
	var all [][]int
	lists := [][]int{nil}
	for range most {
		var longer [][]int
		for _, list := range lists {
			for length := 1; length <= longest; length++ {
				longer = append(longer, append(slices.Clone(list), length))
			}
		}
		all = append(all, longer...)
		lists = longer
	}
	return all
}

func wantFraction(t *testing.T, what string, want *big.Rat, a, b int, ok bool) {
	t.Helper()
	if !ok || !want.Num().IsInt64() || int64(a) != want.Num().Int64() || int64(b) != want.Denom().Int64() {
		t.Errorf("%s: %d / %d %v, want %s", what, a, b, ok, want)
	}
}

func TestPlankExample(t *testing.T) {
	planks, ok := impl.ParsePlanks("5-8-6")
	wantList(t, "ParsePlanks", []int{5, 8, 6}, planks, ok)
	gaps := []int{4, 6}
	count, ok := impl.CountCoverings(gaps, planks, 0)
	wantInt(t, "CountCoverings 0", 4, count, ok)
	first, ok := impl.FirstCovering(gaps, planks, 0)
	wantList(t, "FirstCovering 0", []int{0, 1}, first, ok)
	wood, ok := impl.LeastWood(gaps, planks, 0)
	wantInt(t, "LeastWood 0", 11, wood, ok)
	count, ok = impl.CountCoverings(gaps, planks, 1)
	wantInt(t, "CountCoverings 1", 1, count, ok)
	first, ok = impl.FirstCovering(gaps, planks, 1)
	wantList(t, "FirstCovering 1", []int{2, 1}, first, ok)
	widest, ok := impl.WidestGap(planks, 2, 1)
	wantInt(t, "WidestGap", 4, widest, ok)
	length, ok := impl.JoinedLength(planks, 1)
	wantInt(t, "JoinedLength", 17, length, ok)
	fewest, ok := impl.FewestJoined(12, planks, 0, 1)
	wantInt(t, "FewestJoined", 2, fewest, ok)
	joined, ok := impl.FirstJoined(12, planks, 0, 1)
	wantList(t, "FirstJoined", []int{0, 1}, joined, ok)
	a, b, ok := impl.ReachOfStack(3)
	wantFraction(t, "ReachOfStack", big.NewRat(11, 12), a, b, ok)
	a, b, ok = impl.SafeWalk(10, 2, 20, 40)
	wantFraction(t, "SafeWalk", big.NewRat(3, 2), a, b, ok)
	a, b, ok = impl.LongestOver(10, 20, 30)
	wantFraction(t, "LongestOver", big.NewRat(2, 1), a, b, ok)
}

// Promise 3: for all small gaps and planks everything agrees with the coverings told one by one.
func TestCoveringsOfSmallPlanks(t *testing.T) {
	lists := plankLists(3, 5)
	for _, gaps := range lists {
		for _, planks := range lists {
			for rest := range 3 {
				checkCoverings(t, gaps, planks, rest)
			}
		}
	}
}

// Promise 3: mixed gaps and planks up to MaxPlanks, of lengths up to MaxPlank, with rests up to MaxRest.
func TestCoveringsOfMixedPlanks(t *testing.T) {
	row := &mixedRow{1}
	for range 1500 {
		gaps := row.list(1+row.next(impl.MaxPlanks), 1, 60)
		planks := row.list(1+row.next(impl.MaxPlanks), 1+row.next(60), impl.MaxPlank)
		checkCoverings(t, gaps, planks, row.next(impl.MaxRest+1))
	}
	for range 5 {
		checkCoverings(t, row.list(impl.MaxPlanks, 1, 30), row.list(impl.MaxPlanks, 40, impl.MaxPlank), row.next(impl.MaxRest+1))
	}
}

func checkCoverings(t *testing.T, gaps, planks []int, rest int) {
	t.Helper()
	what := fmt.Sprint(gaps, planks, rest)
	all := coveringsByHand(gaps, planks, rest)
	can, ok := impl.CanCoverAll(gaps, planks, rest)
	wantBool(t, "CanCoverAll "+what, len(all) > 0, can, ok)
	count, ok := impl.CountCoverings(gaps, planks, rest)
	wantInt(t, "CountCoverings "+what, len(all), count, ok)
	var best []int
	least := math.MaxInt
	for i, covering := range all {
		if i == 0 {
			best = covering
		}
		least = min(least, sumByHand(picked(planks, covering)))
	}
	first, ok := impl.FirstCovering(gaps, planks, rest)
	wantListOr(t, "FirstCovering "+what, len(all) > 0, best, first, ok)
	wood, ok := impl.LeastWood(gaps, planks, rest)
	wantIntOr(t, "LeastWood "+what, len(all) > 0, least, wood, ok)
	most := 0
	for _, part := range partsOf(len(gaps)) {
		if len(part) > most && len(coveringsByHand(picked(gaps, part), planks, rest)) > 0 {
			most = len(part)
		}
	}
	covered, ok := impl.MostCovered(gaps, planks, rest)
	wantInt(t, "MostCovered "+what, most, covered, ok)
	checkPlankForAll(t, what, gaps, planks, rest)
}

func checkPlankForAll(t *testing.T, what string, gaps, planks []int, rest int) {
	t.Helper()
	best := -1
	for i, plank := range planks {
		isForAll := !slices.ContainsFunc(gaps, func(gap int) bool { return !spansByHand(gap, plank, rest) })
		if isForAll && (best < 0 || plank < planks[best]) {
			best = i
		}
	}
	index, ok := impl.PlankForAll(gaps, planks, rest)
	wantIntOr(t, "PlankForAll "+what, best >= 0, best, index, ok)
}

// widestByHand tries all widths from the greatest one on.
func widestByHand(planks []int, gaps, rest int) int {
	for width := impl.MaxPlank; width > 0; width-- {
		spanning := 0
		for _, plank := range planks {
			if spansByHand(width, plank, rest) {
				spanning++
			}
		}
		if spanning >= gaps {
			return width
		}
	}
	return 0
}

func checkWidest(t *testing.T, planks []int, rest int) {
	t.Helper()
	for gaps := 1; gaps <= impl.MaxPlanks; gaps++ {
		width, ok := impl.WidestGap(planks, gaps, rest)
		wantInt(t, fmt.Sprint("WidestGap ", planks, gaps, rest), widestByHand(planks, gaps, rest), width, ok)
	}
}

func TestWidestGap(t *testing.T) {
	for _, planks := range plankLists(4, 5) {
		for rest := range 4 {
			checkWidest(t, planks, rest)
		}
	}
	row := &mixedRow{2}
	for range 500 {
		checkWidest(t, row.list(1+row.next(impl.MaxPlanks), 1, impl.MaxPlank), row.next(impl.MaxRest+1))
	}
}

// The widest gaps are covered, and gaps that are wider by 1 are not.
func TestWidestGapIsCovered(t *testing.T) {
	row := &mixedRow{3}
	for range 300 {
		planks, rest := row.list(1+row.next(impl.MaxPlanks), 21, impl.MaxPlank-1), row.next(impl.MaxRest+1)
		gaps := 1 + row.next(len(planks))
		width, ok := impl.WidestGap(planks, gaps, rest)
		what := fmt.Sprint(planks, gaps, rest, width)
		can, fine := impl.CanCoverAll(slices.Repeat([]int{width}, gaps), planks, rest)
		wantBool(t, "CanCoverAll of the widest "+what, true, can, ok && fine)
		can, fine = impl.CanCoverAll(slices.Repeat([]int{width + 1}, gaps), planks, rest)
		wantBool(t, "CanCoverAll of wider ones "+what, false, can, fine)
	}
}

func checkJoined(t *testing.T, gap int, planks []int, rest, lap int) {
	t.Helper()
	what := fmt.Sprint(gap, planks, rest, lap)
	var best []int
	if canJoinByHand(planks, lap) {
		best = bestJoinedByHand(gap, planks, rest, lap)
	}
	fewest, ok := impl.FewestJoined(gap, planks, rest, lap)
	wantIntOr(t, "FewestJoined "+what, best != nil, len(best), fewest, ok)
	first, ok := impl.FirstJoined(gap, planks, rest, lap)
	wantListOr(t, "FirstJoined "+what, best != nil, best, first, ok)
}

// Promise 3: joined planks are as few as span a gap, and their first list is the first one.
func TestJoinedSmallPlanks(t *testing.T) {
	for _, planks := range plankLists(4, 4) {
		for lap := range 4 {
			checkJoinedLength(t, planks, lap)
			for gap := 1; gap <= 17; gap += 2 {
				checkJoined(t, gap, planks, 0, lap)
				checkJoined(t, gap, planks, 1, lap)
			}
		}
	}
}

func TestJoinedMixedPlanks(t *testing.T) {
	row := &mixedRow{4}
	for range 2000 {
		planks := row.list(1+row.next(impl.MaxPlanks), 1+row.next(12), 12+row.next(30))
		rest, lap := row.next(impl.MaxRest+1), row.next(impl.MaxRest+1)
		checkJoinedLength(t, planks, lap)
		checkJoined(t, 1+row.next(impl.MaxPlank), planks, rest, lap)
	}
}

func checkJoinedLength(t *testing.T, planks []int, lap int) {
	t.Helper()
	length, ok := impl.JoinedLength(planks, lap)
	wantIntOr(t, fmt.Sprint("JoinedLength ", planks, lap), canJoinByHand(planks, lap), joinedByHand(planks, lap), length, ok)
}

// Each number of planks up to MaxPlanks is the fewest for some gap, that is just spanned, and not for one wider by 1.
func TestJoinedPlanksThatJustSpan(t *testing.T) {
	planks := slices.Repeat([]int{14}, impl.MaxPlanks)
	for _, c := range []struct{ rest, lap int }{{0, 0}, {0, 3}, {1, 0}, {2, 5}, {3, 10}, {10, 4}} {
		for count := 1; count <= impl.MaxPlanks; count++ {
			gap := 14*count - c.lap*(count-1) - 2*c.rest
			if gap < 1 || gap > impl.MaxPlank {
				continue
			}
			what := fmt.Sprint(c, count)
			fewest, ok := impl.FewestJoined(gap, planks, c.rest, c.lap)
			wantInt(t, "FewestJoined "+what, count, fewest, ok)
			first, ok := impl.FirstJoined(gap, planks, c.rest, c.lap)
			wantList(t, "FirstJoined "+what, []int{0, 1, 2, 3, 4, 5, 6}[:count], first, ok)
			if gap < impl.MaxPlank {
				fewest, ok = impl.FewestJoined(gap+1, planks, c.rest, c.lap)
				wantIntOr(t, "FewestJoined wider "+what, count < impl.MaxPlanks, count+1, fewest, ok)
			}
		}
	}
}

// The first list is the lexicographically first one, not the one of the longest planks, nor one of more planks.
func TestFirstJoinedIsFirst(t *testing.T) {
	cases := []struct {
		gap       int
		planks    []int
		rest, lap int
		want      []int
	}{
		{10, []int{1, 9, 10, 20}, 0, 0, []int{2}}, {10, []int{1, 9, 8, 5}, 0, 0, []int{0, 1}}, {11, []int{1, 9, 8, 5}, 0, 0, []int{1, 2}},
		{14, []int{1, 9, 8, 5}, 0, 0, []int{1, 2}}, {13, []int{5, 9, 8, 4}, 0, 0, []int{0, 1}}, {13, []int{2, 3, 4, 5, 6, 7, 8}, 0, 1, []int{4, 6}},
		{12, []int{2, 3, 4, 5, 6, 7, 8}, 0, 1, []int{3, 6}}, {22, []int{2, 3, 4, 5, 6, 7, 8}, 0, 0, []int{0, 3, 5, 6}},
		{19, []int{2, 3, 4, 5, 6, 7, 8}, 1, 0, []int{4, 5, 6}}, {29, []int{2, 3, 4, 5, 6, 7, 8}, 0, 1, []int{0, 1, 2, 3, 4, 5, 6}}, {30, []int{2, 3, 4, 5, 6, 7, 8}, 0, 1, nil},
	}
	for _, c := range cases {
		if got := bestJoinedByHand(c.gap, c.planks, c.rest, c.lap); !slices.Equal(got, c.want) {
			t.Error("the case is told wrongly:", c, got)
		}
		checkJoined(t, c.gap, c.planks, c.rest, c.lap)
	}
}

// A plank that is not longer than the lap makes joining fail, even if it is alone or is not needed.
func TestPlanksNotLongerThanLap(t *testing.T) {
	for lap := range impl.MaxRest + 1 {
		for plank := 1; plank <= impl.MaxRest+2; plank++ {
			for _, planks := range [][]int{{plank}, {plank, 50}, {50, plank}, {100, 100, 100, plank, 100, 100, 100}} {
				checkJoinedLength(t, planks, lap)
				checkJoined(t, 5, planks, 0, lap)
				checkJoined(t, 40, planks, 1, lap)
			}
		}
	}
}

func TestSpans(t *testing.T) {
	for gap := 1; gap <= impl.MaxPlank; gap++ {
		for plank := 1; plank <= impl.MaxPlank; plank++ {
			for rest := range impl.MaxRest + 1 {
				can, ok := impl.CanSpan(gap, plank, rest)
				wantBool(t, fmt.Sprint("CanSpan ", gap, plank, rest), spansByHand(gap, plank, rest), can, ok)
			}
		}
	}
}

// One plank covers one gap if it just spans it, and not if it is shorter by 1.
func TestOnePlank(t *testing.T) {
	for rest := range impl.MaxRest + 1 {
		for _, plank := range []int{1, 2, 20, 21, 22, impl.MaxPlank - 1, impl.MaxPlank} {
			for _, gap := range []int{1, plank - 2*rest - 1, plank - 2*rest, plank - 2*rest + 1, impl.MaxPlank} {
				if gap < 1 || gap > impl.MaxPlank {
					continue
				}
				checkCoverings(t, []int{gap}, []int{plank}, rest)
				checkCoverings(t, []int{gap, gap}, []int{plank}, rest)
				checkJoined(t, gap, []int{plank}, rest, 0)
				checkJoined(t, gap, []int{plank}, rest, impl.MaxRest)
			}
			checkWidest(t, []int{plank}, rest)
		}
	}
}

// MaxPlanks planks that span each gap cover them in as many ways as they are ordered.
func TestMostCoverings(t *testing.T) {
	planks := slices.Repeat([]int{impl.MaxPlank}, impl.MaxPlanks)
	ways := 1
	for n := 1; n <= impl.MaxPlanks; n++ {
		ways *= impl.MaxPlanks + 1 - n
		gaps := slices.Repeat([]int{impl.MaxPlank}, n)
		what := fmt.Sprint("of gaps ", n)
		count, ok := impl.CountCoverings(gaps, planks, 0)
		wantInt(t, "CountCoverings "+what, ways, count, ok)
		first, ok := impl.FirstCovering(gaps, planks, 0)
		wantList(t, "FirstCovering "+what, []int{0, 1, 2, 3, 4, 5, 6}[:n], first, ok)
		wood, ok := impl.LeastWood(gaps, planks, 0)
		wantInt(t, "LeastWood "+what, n*impl.MaxPlank, wood, ok)
		covered, ok := impl.MostCovered(gaps, planks, 0)
		wantInt(t, "MostCovered "+what, n, covered, ok)
		count, ok = impl.CountCoverings(gaps, planks, 1)
		wantInt(t, "CountCoverings 1 "+what, 0, count, ok)
	}
	length, ok := impl.JoinedLength(planks, 0)
	wantInt(t, "JoinedLength 0", 700, length, ok)
	length, ok = impl.JoinedLength(planks, impl.MaxRest)
	wantInt(t, "JoinedLength MaxRest", 640, length, ok)
	fewest, ok := impl.FewestJoined(impl.MaxPlank, planks, impl.MaxRest, impl.MaxRest)
	wantInt(t, "FewestJoined MaxRest", 2, fewest, ok)
}

func TestMoreGapsThanPlanks(t *testing.T) {
	for n := 1; n < impl.MaxPlanks; n++ {
		for _, length := range []int{1, impl.MaxPlank} {
			planks := slices.Repeat([]int{length}, n)
			checkCoverings(t, slices.Repeat([]int{1}, n+1), planks, 0)
			checkCoverings(t, slices.Repeat([]int{1}, impl.MaxPlanks), planks, 0)
			checkWidest(t, planks, 0)
		}
	}
}

// Promise 3: gaps of rivers are those between stones and banks, and planks that cover all of them span each one with the rest.
func TestGapsOfSmallRivers(t *testing.T) {
	lists := append(plankLists(2, 7), []int{3, 4, 5}, []int{9, 2, 2, 6}, []int{2, 2, 2, 2, 2, 2, 2}, []int{11, 10, 9, 8, 7, 6, 5})
	for _, river := range smallRivers(8) {
		for _, leap := range []int{1, 2, 3, 8, 9, impl.MaxLeap} {
			gaps, ok := impl.GapsOfRiver(river, leap)
			wantList(t, fmt.Sprint("GapsOfRiver ", river, leap), gapsByHand(river, leap), gaps, ok)
			for _, planks := range lists {
				checkPlankRiver(t, river, leap, planks, 0)
				checkPlankRiver(t, river, leap, planks, 1)
			}
		}
	}
}

func checkPlankRiver(t *testing.T, river string, leap int, planks []int, rest int) {
	t.Helper()
	gaps := gapsByHand(river, leap)
	isTold := len(gaps) <= impl.MaxPlanks
	want := isTold && len(coveringsByHand(gaps, planks, rest)) > 0
	can, ok := impl.CanPlankRiver(river, leap, planks, rest)
	if can != want || ok != isTold {
		t.Errorf("CanPlankRiver %s %d %v %d: %v %v, want %v %v", river, leap, planks, rest, can, ok, want, isTold)
	}
}

// Rivers in which nobody needs a plank have no gaps, and all planks cover these.
func TestRiversWithoutGaps(t *testing.T) {
	for _, c := range []struct {
		river string
		leap  int
	}{
		{"o", 1}, {"ooo", 1}, {".o..o", 3}, {".o..o", impl.MaxLeap}, {".", 2}, {strings.Repeat("o", impl.MaxRiver), 1}, {strings.Repeat(".", impl.MaxRiver), impl.MaxRiver + 1},
	} {
		gaps, ok := impl.GapsOfRiver(c.river, c.leap)
		wantList(t, "GapsOfRiver "+c.river, nil, gaps, ok)
		for rest := range impl.MaxRest + 1 {
			can, ok := impl.CanPlankRiver(c.river, c.leap, []int{1}, rest)
			wantBool(t, "CanPlankRiver "+c.river, true, can, ok)
		}
	}
}

// MaxPlanks gaps are covered, one more makes CanPlankRiver fail, and GapsOfRiver tells all of them.
func TestRiversWithManyGaps(t *testing.T) {
	planks := slices.Repeat([]int{impl.MaxPlank}, impl.MaxPlanks)
	for n := 1; n <= impl.MaxRiver/2; n++ {
		river := strings.Repeat(".o", n)
		gaps, ok := impl.GapsOfRiver(river, 1)
		wantList(t, "GapsOfRiver "+river, slices.Repeat([]int{2}, n), gaps, ok)
		can, ok := impl.CanPlankRiver(river, 1, planks, impl.MaxRest)
		if isTold := n <= impl.MaxPlanks; can != isTold || ok != isTold {
			t.Errorf("CanPlankRiver with %d gaps: %v %v", n, can, ok)
		}
		checkPlankRiver(t, river, 1, planks[1:], 0)
	}
	water := strings.Repeat(".", impl.MaxRiver)
	gaps, ok := impl.GapsOfRiver(water, 1)
	wantList(t, "GapsOfRiver of water", []int{impl.MaxRiver + 1}, gaps, ok)
	for _, plank := range []int{impl.MaxRiver, impl.MaxRiver + 1, 60, 61} {
		checkPlankRiver(t, water, 1, []int{plank}, 0)
		checkPlankRiver(t, water, 1, []int{plank}, impl.MaxRest)
	}
}

func TestStacks(t *testing.T) {
	reach := new(big.Rat)
	for planks := 1; planks <= 12; planks++ {
		reach.Add(reach, big.NewRat(1, int64(2*planks)))
		a, b, ok := impl.ReachOfStack(planks)
		wantFraction(t, fmt.Sprint("ReachOfStack ", planks), reach, a, b, ok)
	}
	a, b, ok := impl.ReachOfStack(1)
	wantFraction(t, "ReachOfStack 1", big.NewRat(1, 2), a, b, ok)
	a, b, ok = impl.ReachOfStack(12)
	wantFraction(t, "ReachOfStack 12", big.NewRat(86021, 55440), a, b, ok)
}

// someWeights are weights at their edges and between.
var someWeights = []int{1, 2, 3, 7, 20, 30, 40, 99, 500, 999, 1000}

func TestWalksOnPlanks(t *testing.T) {
	for plank := 1; plank <= impl.MaxPlank; plank++ {
		for _, weight := range someWeights {
			for _, person := range someWeights {
				a, b, ok := impl.LongestOver(plank, weight, person)
				want := big.NewRat(int64(weight*plank), int64(2*weight+2*person))
				wantFraction(t, fmt.Sprint("LongestOver ", plank, weight, person), want, a, b, ok)
				for over := 0; 2*over <= plank; over++ {
					a, b, ok := impl.SafeWalk(plank, over, weight, person)
					wantFraction(t, fmt.Sprint("SafeWalk ", plank, over, weight, person), walkByHand(plank, over, weight, person), a, b, ok)
				}
			}
		}
	}
}

func walkByHand(plank, over, weight, person int) *big.Rat {
	arm := new(big.Rat).Sub(big.NewRat(int64(plank), 2), big.NewRat(int64(over), 1))
	walk := arm.Mul(arm, big.NewRat(int64(weight), int64(person)))
	if end := big.NewRat(int64(over), 1); walk.Cmp(end) > 0 {
		return end
	}
	return walk
}

// Over an edge of 0 one goes no way, nor with half of a plank that is even. Up to LongestOver one goes to the end.
func TestEdgesOfWalks(t *testing.T) {
	cases := []struct {
		plank, over, weight, person int
		a, b                        int64
	}{
		{10, 0, 20, 40, 0, 1}, {1, 0, 1000, 1, 0, 1}, {10, 5, 20, 40, 0, 1}, {100, 50, 1000, 1, 0, 1}, {11, 5, 20, 40, 1, 4}, {11, 5, 40, 1, 5, 1},
		{10, 2, 20, 30, 2, 1}, {10, 3, 20, 30, 4, 3}, {10, 1, 20, 30, 1, 1}, {3, 1, 1, 1000, 1, 2000}, {100, 49, 1, 1000, 1, 1000}, {100, 1, 1000, 1000, 1, 1},
	}
	for _, c := range cases {
		a, b, ok := impl.SafeWalk(c.plank, c.over, c.weight, c.person)
		wantFraction(t, fmt.Sprint("SafeWalk ", c), big.NewRat(c.a, c.b), a, b, ok)
	}
}

func TestSortedPlanks(t *testing.T) {
	row := &mixedRow{5}
	lists := append(plankLists(4, 4), []int{1, 100}, []int{100, 1}, []int{7, 7, 7, 7, 7, 7, 7}, []int{1, 2, 3, 4, 5, 6, 7}, []int{9, 10, 100})
	for range 200 {
		lists = append(lists, row.list(1+row.next(impl.MaxPlanks), 1, impl.MaxPlank))
	}
	for _, planks := range lists {
		want := slices.Clone(planks)
		slices.Sort(want)
		slices.Reverse(want)
		sorted, ok := impl.SortPlanks(planks)
		wantList(t, fmt.Sprint("SortPlanks ", planks), want, sorted, ok)
	}
}

// Planks are read back from their texts.
func TestPlanksTexts(t *testing.T) {
	row := &mixedRow{6}
	lists := append(plankLists(3, 11), slices.Repeat([]int{impl.MaxPlank}, impl.MaxPlanks), slices.Repeat([]int{1}, impl.MaxPlanks))
	for range 200 {
		lists = append(lists, row.list(1+row.next(impl.MaxPlanks), 1, impl.MaxPlank))
	}
	for length := 1; length <= impl.MaxPlank; length++ {
		lists = append(lists, []int{length})
	}
	for _, planks := range lists {
		want := ""
		for i, length := range planks {
			if i > 0 {
				want += "-"
			}
			want += strconv.Itoa(length)
		}
		text, ok := impl.PlanksText(planks)
		wantText(t, "PlanksText", want, text, ok)
		read, ok := impl.ParsePlanks(want)
		wantList(t, "ParsePlanks "+want, planks, read, ok)
	}
}

func TestTextsThatAreNoPlanks(t *testing.T) {
	for _, text := range []string{
		"", "-", "--", "5-", "-5", "5--8", "5-8-", "-5-8", "05", "5-08", "00", "0", "5-0", "0-5", "5-0-8", "+5", "5-+8", "5--8-6", "101", "100-101", "1000", "0100",
		"5 -8", "5- 8", " 5", "5 ", "5-8\n", "\n", "5,8", "5.8", "5.0", "5_0", "5-8_", "0x5", "5e1", "1e1", "a", "5-a", "5a", "５", "5–8", "٥", "\x00", "5\x00", "5-\xff",
		"1-1-1-1-1-1-1-1", "9223372036854775807", "9223372036854775808", "18446744073709551621", "5-18446744073709551624", "4294967301", "-9223372036854775808",
		strings.Repeat("1-", 100000) + "1", strings.Repeat("1", 100000), strings.Repeat("0", 100000) + "5", strings.Repeat("-", 100000),
	} {
		if planks, ok := impl.ParsePlanks(text); len(planks) != 0 || ok {
			t.Errorf("ParsePlanks %.30q: %v %v", text, planks, ok)
		}
	}
}

// noPlanks returns lists that are neither planks nor gaps.
func noPlanks() [][]int {
	return [][]int{
		nil, {}, {0}, {-1}, {impl.MaxPlank + 1}, {5, 0}, {0, 5}, {5, 8, -6}, {impl.MaxPlank + 1, 1}, {50, 60, 70, impl.MaxPlank + 1}, {math.MinInt}, {math.MaxInt}, {5, math.MaxInt, 5}, {5, math.MinInt},
		slices.Repeat([]int{50}, impl.MaxPlanks+1), slices.Repeat([]int{1}, impl.MaxPlanks+1), make([]int, impl.MaxPlanks), slices.Repeat([]int{50}, 100000),
	}
}

// plankNumbers are the numbers of a call, each in its bounds unless a test sets it otherwise.
type plankNumbers struct {
	river                                                           string
	leap, rest, lap, gap, plank, count, stack, over, weight, person int
}

var goodPlankNumbers = plankNumbers{river: ".o..o", leap: 2, rest: 1, lap: 1, gap: 9, plank: 40, count: 2, stack: 3, over: 2, weight: 20, person: 40}

// plankCalls returns all calls of chapter 3 with numbers, told by the results that should be zero if it fails.
func plankCalls(gaps, planks []int, n plankNumbers) map[string]string {
	told := map[string]string{}
	list := func(name string, a []int, ok bool) { told[name] = fmt.Sprint(len(a), ok) }
	number := func(name string, a int, ok bool) { told[name] = fmt.Sprint(a, ok) }
	fact := func(name string, a, ok bool) { told[name] = fmt.Sprint(a, ok) }
	fraction := func(name string, a, b int, ok bool) {
		if told[name] = fmt.Sprint(a, b, ok); a == 0 && b == 0 {
			told[name] = fmt.Sprint(0, ok)
		}
	}
	isSo, ok := impl.CanSpan(n.gap, n.plank, n.rest)
	fact("CanSpan", isSo, ok)
	isSo, ok = impl.CanCoverAll(gaps, planks, n.rest)
	fact("CanCoverAll", isSo, ok)
	a, ok := impl.FirstCovering(gaps, planks, n.rest)
	list("FirstCovering", a, ok)
	k, ok := impl.CountCoverings(gaps, planks, n.rest)
	number("CountCoverings", k, ok)
	k, ok = impl.LeastWood(gaps, planks, n.rest)
	number("LeastWood", k, ok)
	k, ok = impl.MostCovered(gaps, planks, n.rest)
	number("MostCovered", k, ok)
	k, ok = impl.WidestGap(planks, n.count, n.rest)
	number("WidestGap", k, ok)
	k, ok = impl.PlankForAll(gaps, planks, n.rest)
	number("PlankForAll", k, ok)
	k, ok = impl.JoinedLength(planks, n.lap)
	number("JoinedLength", k, ok)
	k, ok = impl.FewestJoined(n.gap, planks, n.rest, n.lap)
	number("FewestJoined", k, ok)
	a, ok = impl.FirstJoined(n.gap, planks, n.rest, n.lap)
	list("FirstJoined", a, ok)
	a, ok = impl.GapsOfRiver(n.river, n.leap)
	list("GapsOfRiver", a, ok)
	isSo, ok = impl.CanPlankRiver(n.river, n.leap, planks, n.rest)
	fact("CanPlankRiver", isSo, ok)
	k, m, ok := impl.ReachOfStack(n.stack)
	fraction("ReachOfStack", k, m, ok)
	k, m, ok = impl.SafeWalk(n.plank, n.over, n.weight, n.person)
	fraction("SafeWalk", k, m, ok)
	k, m, ok = impl.LongestOver(n.plank, n.weight, n.person)
	fraction("LongestOver", k, m, ok)
	a, ok = impl.SortPlanks(planks)
	list("SortPlanks", a, ok)
	text, ok := impl.PlanksText(planks)
	number("PlanksText", len(text), ok)
	return told
}

// Promise 11: lists that are no planks or no gaps make all calls with them fail with zero values.
func TestListsThatAreNoPlanks(t *testing.T) {
	withGaps := []string{"CanCoverAll", "FirstCovering", "CountCoverings", "LeastWood", "MostCovered", "PlankForAll"}
	withPlanks := append(slices.Clone(withGaps), "WidestGap", "JoinedLength", "FewestJoined", "FirstJoined", "CanPlankRiver", "SortPlanks", "PlanksText")
	gaps, planks := []int{4, 6}, []int{15, 18, 16}
	requireFailures(t, "planks", plankCalls(gaps, planks, goodPlankNumbers))
	waterless := goodPlankNumbers
	waterless.river = "ooo"
	for _, list := range noPlanks() {
		what := fmt.Sprintf("%.40s", fmt.Sprint(list))
		if impl.ArePlanks(list) {
			t.Error("ArePlanks", what)
		}
		requireFailures(t, "gaps "+what, plankCalls(list, planks, goodPlankNumbers), withGaps...)
		requireFailures(t, "planks "+what, plankCalls(gaps, list, goodPlankNumbers), withPlanks...)
		requireFailures(t, "no gaps and planks "+what, plankCalls(gaps, list, waterless), withPlanks...)
		requireFailures(t, "both "+what, plankCalls(list, list, goodPlankNumbers), withPlanks...)
	}
	for _, list := range append(plankLists(3, 4), []int{impl.MaxPlank}, slices.Repeat([]int{impl.MaxPlank}, impl.MaxPlanks), slices.Repeat([]int{1}, impl.MaxPlanks)) {
		if !impl.ArePlanks(list) {
			t.Error("ArePlanks is false of", list)
		}
	}
}

// Promise 11: numbers out of their bounds make the calls with them fail with zero values, and no others.
func TestPlankNumbersOutOfBounds(t *testing.T) {
	kinds := []struct {
		name        string
		least, most int
		set         func(n *plankNumbers, to int)
		failing     []string
	}{
		{"a rest", 0, impl.MaxRest, func(n *plankNumbers, to int) { n.rest = to }, []string{"CanSpan", "CanCoverAll", "FirstCovering", "CountCoverings", "LeastWood", "MostCovered", "WidestGap", "PlankForAll", "FewestJoined", "FirstJoined", "CanPlankRiver"}},
		{"a lap", 0, impl.MaxRest, func(n *plankNumbers, to int) { n.lap = to }, []string{"JoinedLength", "FewestJoined", "FirstJoined"}},
		{"a gap", 1, impl.MaxPlank, func(n *plankNumbers, to int) { n.gap = to }, []string{"CanSpan", "FewestJoined", "FirstJoined"}},
		{"a plank", 1, impl.MaxPlank, func(n *plankNumbers, to int) { n.plank, n.over = to, 0 }, []string{"CanSpan", "SafeWalk", "LongestOver"}},
		{"a count", 1, impl.MaxPlanks, func(n *plankNumbers, to int) { n.count = to }, []string{"WidestGap"}},
		{"a stack", 1, 12, func(n *plankNumbers, to int) { n.stack = to }, []string{"ReachOfStack"}},
		{"an over", 0, 20, func(n *plankNumbers, to int) { n.over = to }, []string{"SafeWalk"}},
		{"an over of 41", 0, 20, func(n *plankNumbers, to int) { n.plank, n.over = 41, to }, []string{"SafeWalk"}},
		{"an over of 1", 0, 0, func(n *plankNumbers, to int) { n.plank, n.over = 1, to }, []string{"SafeWalk"}},
		{"a weight", 1, 1000, func(n *plankNumbers, to int) { n.weight = to }, []string{"SafeWalk", "LongestOver"}},
		{"a person", 1, 1000, func(n *plankNumbers, to int) { n.person = to }, []string{"SafeWalk", "LongestOver"}},
		{"a leap", 1, impl.MaxLeap, func(n *plankNumbers, to int) { n.leap = to }, []string{"GapsOfRiver", "CanPlankRiver"}},
	}
	planks := []int{60, 80, 70}
	for _, kind := range kinds {
		for _, to := range append(oddNumbers, kind.least-1, kind.least, kind.least+1, kind.most-1, kind.most, kind.most+1, 999, 1000, 1001) {
			n := goodPlankNumbers
			kind.set(&n, to)
			failing := kind.failing
			if kind.least <= to && to <= kind.most {
				failing = nil
			}
			requireFailures(t, fmt.Sprint(kind.name, " ", to), plankCalls([]int{4, 6}, planks, n), failing...)
		}
	}
}

// Promise 11: texts that are no rivers make the calls with them fail with zero values.
func TestPlanksForNoRivers(t *testing.T) {
	for _, text := range noRivers() {
		n := goodPlankNumbers
		n.river = text
		requireFailures(t, fmt.Sprintf("%.30q", text), plankCalls([]int{4, 6}, []int{15, 18, 16}, n), "GapsOfRiver", "CanPlankRiver")
	}
}

// Promise 11: no call panics, whatever lists and numbers are put together, and no call changes a later one.
func TestPlankCallsAreTotal(t *testing.T) {
	lists := append(noPlanks(), []int{1}, []int{impl.MaxPlank}, []int{4, 6}, []int{5, 8, 6}, []int{7, 6, 5, 4, 3, 2, 1}, slices.Repeat([]int{impl.MaxPlank}, impl.MaxPlanks))
	for _, x := range oddNumbers {
		for _, y := range oddNumbers {
			n := plankNumbers{".o..o", x, y, x, y, x, y, x, y, y, x}
			if x < 0 {
				n.rest = 1
			}
			gaps, planks := lists[(x&0xff)%len(lists)], lists[(y&0xff)%len(lists)]
			first, again := plankCalls(gaps, planks, n), plankCalls(gaps, planks, n)
			for name, told := range first {
				if told != again[name] {
					t.Errorf("%s %v: %s, then %s", name, n, told, again[name])
				}
			}
		}
	}
	for _, gaps := range lists {
		for _, planks := range lists {
			plankCalls(gaps, planks, goodPlankNumbers)
		}
	}
}

// Promise 11: gaps and planks stay as they are, and so does the room behind them.
func TestPlankArgumentsAreNotChanged(t *testing.T) {
	lists := [][]int{{}, {5}, {4, 6}, {5, 8, 6}, {0, 3}, {101}, {3, 9, 1, 50, 4, 2, 8}, {1, 2, 3, 4, 5, 6, 7, 8}, {1, 2, 3, 4, 5, 6, 7}}
	for _, gaps := range lists {
		for _, planks := range lists {
			givenGaps, givenPlanks := withRoom(gaps), withRoom(planks)
			plankCalls(givenGaps, givenPlanks, goodPlankNumbers)
			plankCalls(givenGaps, givenPlanks, plankNumbers{river: ".o..o", leap: 1, gap: 3})
			impl.ArePlanks(givenPlanks)
			if !isUntouched(givenGaps, gaps) || !isUntouched(givenPlanks, planks) {
				t.Error("a call changes", gaps, planks)
			}
		}
	}
}

// Promise 11: a list that is returned is new memory, so that what is written to it is seen neither in an argument nor in the next one.
func TestPlankResultsAreNew(t *testing.T) {
	gaps, planks := withRoom([]int{4, 6}), withRoom([]int{9, 8, 7})
	calls := map[string]func() ([]int, bool){
		"FirstCovering": func() ([]int, bool) { return impl.FirstCovering(gaps, planks, 0) },
		"FirstJoined":   func() ([]int, bool) { return impl.FirstJoined(20, planks, 0, 0) },
		"GapsOfRiver":   func() ([]int, bool) { return impl.GapsOfRiver(".o..o", 1) },
		"SortPlanks":    func() ([]int, bool) { return impl.SortPlanks(planks) },
		"ParsePlanks":   func() ([]int, bool) { return impl.ParsePlanks("5-8-6") },
	}
	wantNewLists(t, calls)
	if !isUntouched(gaps, []int{4, 6}) || !isUntouched(planks, []int{9, 8, 7}) {
		t.Error("a call hands out an argument")
	}
}

// Promise 11: a text that is returned is new memory, and planks read from a text are read from that alone.
func TestPlanksTextIsNew(t *testing.T) {
	given := strings.Clone("5-8-6")
	planks, _ := impl.ParsePlanks(given)
	text, ok := impl.PlanksText(planks)
	if text != given || !ok || unsafe.StringData(text) == unsafe.StringData(given) {
		t.Errorf("PlanksText hands out the text that was read, or another one: %q %v", text, ok)
	}
}
