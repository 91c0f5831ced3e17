package tests

import (
	"fmt"
	"math"
	"math/big"
	"regexp"
	"slices"
	"strings"
	"testing"
	"unsafe"

	"loop.example/g01352/impl"
)

func cornerOf(wide, deep int) impl.Corner { return impl.Corner{Wide: wide, Deep: deep} }

func wantCorner(t *testing.T, what string, exists bool, want, got impl.Corner, ok bool) {
	t.Helper()
	if !exists {
		want = impl.Corner{}
	}
	if got != want || ok != exists {
		t.Errorf("%s: %v %v, want %v %v", what, got, ok, want, exists)
	}
}

// wantBest requires a spot and what it needs, if there is any.
func wantBest(t *testing.T, what string, exists bool, want [3]int, a, b, needs int, ok bool) {
	t.Helper()
	if !exists {
		want = [3]int{}
	}
	if got := [3]int{a, b, needs}; got != want || ok != exists {
		t.Errorf("%s: %v %v, want %v %v", what, got, ok, want, exists)
	}
}

func ratio(a, b int) *big.Rat { return big.NewRat(int64(a), int64(b)) }

// rationalSquare returns the square of the distance from a place to another one.
func rationalSquare(x, y, otherX, otherY *big.Rat) *big.Rat {
	across, along := new(big.Rat).Sub(x, otherX), new(big.Rat).Sub(y, otherY)
	return new(big.Rat).Add(across.Mul(across, across), along.Mul(along, along))
}

// reachesByHand reports whether a plank reaches so far that the square of the distance is this one.
func reachesByHand(plank int, square *big.Rat) bool { return square.Cmp(ratio(plank*plank, 1)) <= 0 }

// squareFromMiddle returns the square of the distance from the middle of a first plank to the inner corner.
func squareFromMiddle(c impl.Corner, a, b int) *big.Rat {
	return rationalSquare(ratio(a, 2), ratio(b, 2), ratio(c.Wide, 1), ratio(c.Deep, 1))
}

// needsByHand tells what a second plank needs, with the squares told one by one.
func needsByHand(c impl.Corner, a, b int) int {
	return 4*c.Wide*c.Wide - 4*c.Wide*a + a*a + 4*c.Deep*c.Deep - 4*c.Deep*b + b*b
}

// firstSpotsByHand returns all spots for a first plank.
func firstSpotsByHand(plank int) [][]int {
	var spots [][]int
	for a := 1; a <= plank; a++ {
		for b := 1; b <= plank; b++ {
			if a*a+b*b <= plank*plank {
				spots = append(spots, []int{a, b})
			}
		}
	}
	return spots
}

// spotsByHand returns those of some spots with which a second plank reaches.
func spotsByHand(c impl.Corner, plank int, first [][]int) [][]int {
	var spots [][]int
	for _, spot := range first {
		if needsByHand(c, spot[0], spot[1]) <= 4*plank*plank {
			spots = append(spots, spot)
		}
	}
	return spots
}

// bestSpotByHand returns the best one of some spots, and what it needs.
func bestSpotByHand(c impl.Corner, first [][]int) [3]int {
	if len(first) == 0 {
		return [3]int{}
	}
	best := slices.MinFunc(first, func(one, other []int) int {
		return needsByHand(c, one[0], one[1]) - needsByHand(c, other[0], other[1])
	})
	return [3]int{best[0], best[1], needsByHand(c, best[0], best[1])}
}

// leastPlankByHand looks for each spot up to what the inner corner is twice away how long both planks must be for it.
func leastPlankByHand(c impl.Corner) int {
	least := math.MaxInt
	for a := 1; a <= 2*c.Wide; a++ {
		for b := 1; b <= 2*c.Deep; b++ {
			long := max(4*(a*a+b*b), needsByHand(c, a, b))
			if 4*(least-1)*(least-1) < long && least < math.MaxInt {
				continue
			}
			least = 1
			for 4*least*least < long {
				least++
			}
		}
	}
	return least
}

// checkSpots compares what is told of a corner and planks with all spots for the first one.
func checkSpots(t *testing.T, c impl.Corner, plank int, first [][]int) {
	t.Helper()
	what := fmt.Sprint(c, " ", plank)
	all := spotsByHand(c, plank, first)
	spots, ok := impl.SpotsFor(c, plank)
	wantRowsOr(t, "SpotsFor "+what, len(all) <= 1000, all, spots, ok)
	count, ok := impl.CountSpots(c, plank)
	wantInt(t, "CountSpots "+what, len(all), count, ok)
	a, b, needs, ok := impl.BestSpot(c, plank)
	wantBest(t, "BestSpot "+what, plank > 1, bestSpotByHand(c, first), a, b, needs, ok)
	isShort, ok := impl.NeedsCorner(c, plank)
	wantBool(t, "NeedsCorner "+what, plank < min(c.Wide, c.Deep), isShort, ok)
}

// checkCorner compares what is told of a corner without planks.
func checkCorner(t *testing.T, c impl.Corner) {
	t.Helper()
	what := fmt.Sprint(c)
	if !impl.IsCorner(c) {
		t.Error("IsCorner is false of", c)
	}
	square, ok := impl.SquareToInner(c)
	wantInt(t, "SquareToInner "+what, c.Wide*c.Wide+c.Deep*c.Deep, square, ok)
	turned, ok := impl.TurnCorner(c)
	wantCorner(t, "TurnCorner "+what, true, cornerOf(c.Deep, c.Wide), turned, ok)
	text := fmt.Sprintf("%dx%d", c.Wide, c.Deep)
	told, ok := impl.CornerText(c)
	wantText(t, "CornerText "+what, text, told, ok)
	parsed, ok := impl.ParseCorner(text)
	wantCorner(t, "ParseCorner "+text, true, c, parsed, ok)
}

// checkLeastPlank requires that there is a spot for a least plank, and none for a shorter one.
func checkLeastPlank(t *testing.T, c impl.Corner) {
	t.Helper()
	want := leastPlankByHand(c)
	least, ok := impl.LeastPlank(c)
	wantInt(t, fmt.Sprint("LeastPlank ", c), want, least, ok)
	for plank := 1; plank <= impl.MaxPlankLong; plank++ {
		if plank > want+2 && plank < impl.MaxPlankLong {
			continue
		}
		count, ok := impl.CountSpots(c, plank)
		if count > 0 != (plank >= want) || !ok {
			t.Error("LeastPlank", c, "is", want, "but for planks of", plank, "CountSpots is", count, ok)
		}
	}
}

// mixedCorner returns a corner of a ditch of any kind.
func mixedCorner(row *mixedRow) impl.Corner {
	return cornerOf(1+row.next(impl.MaxDitch), 1+row.next(impl.MaxDitch))
}

// edgeCorners returns corners of the narrowest ditches, of the widest ones, and of those that are as wide as deep.
func edgeCorners() []impl.Corner {
	var all []impl.Corner
	for _, n := range []int{1, 2, 3, 10, 50, impl.MaxDitch - 1, impl.MaxDitch} {
		all = append(all, cornerOf(n, n), cornerOf(1, n), cornerOf(n, 1), cornerOf(impl.MaxDitch, n), cornerOf(n, impl.MaxDitch))
	}
	return all
}

func TestCornerExample(t *testing.T) {
	c, ok := impl.ParseCorner("3x3")
	wantCorner(t, "ParseCorner", true, cornerOf(3, 3), c, ok)
	square, ok := impl.SquareToInner(c)
	wantInt(t, "SquareToInner", 18, square, ok)
	can, ok := impl.CanSquare(3, 3)
	wantBool(t, "CanSquare", true, can, ok)
	a, b, needs, ok := impl.BestSpot(c, 3)
	wantBest(t, "BestSpot", true, [3]int{2, 2, 32}, a, b, needs, ok)
	needs, ok = impl.SecondNeeds(c, 2, 2)
	wantInt(t, "SecondNeeds", 32, needs, ok)
	spots, ok := impl.SpotsFor(c, 3)
	wantRowsOr(t, "SpotsFor", true, [][]int{{2, 2}}, spots, ok)
	least, ok := impl.LeastPlank(c)
	wantInt(t, "LeastPlank", 3, least, ok)
	greatest, ok := impl.GreatestSquare(10)
	wantInt(t, "GreatestSquare 10", 10, greatest, ok)
	greatest, ok = impl.GreatestSquare(20)
	wantInt(t, "GreatestSquare 20", 21, greatest, ok)
	leans, ok := impl.WholeLeans(25)
	wantRowsOr(t, "WholeLeans", true, [][]int{{7, 24}, {15, 20}}, leans, ok)
	height, left, ok := impl.LeanHeight(10, 6)
	wantTwo(t, "LeanHeight", true, 8, 0, height, left, ok)
	height, left, ok = impl.StepOut(10, 6, 1)
	wantTwo(t, "StepOut", true, 7, 2, height, left, ok)
	can, ok = impl.CanTurn(1, 1, 3)
	wantBool(t, "CanTurn", false, can, ok)
}

// Promise 6: for all small corners and planks spots are those with which both planks reach, and the best one needs the least.
func TestSpotsOfSmallCorners(t *testing.T) {
	for plank := 1; plank <= 16; plank++ {
		first := firstSpotsByHand(plank)
		for wide := 1; wide <= 18; wide++ {
			for deep := 1; deep <= 18; deep++ {
				checkSpots(t, cornerOf(wide, deep), plank, first)
			}
		}
	}
}

// Promise 6: the same for longer planks, up to MaxPlankLong, and ditches of 1 up to MaxDitch.
func TestSpotsOfMixedCorners(t *testing.T) {
	row := &mixedRow{8}
	for _, plank := range []int{1, 2, 3, 33, 50, 66, 67, 94, 95, 100, 141, 142, impl.MaxPlankLong - 1, impl.MaxPlankLong} {
		first := firstSpotsByHand(plank)
		for _, c := range edgeCorners() {
			checkSpots(t, c, plank, first)
		}
		for range 10 {
			checkSpots(t, mixedCorner(row), plank, first)
		}
	}
	for range 60 {
		plank := 1 + row.next(impl.MaxPlankLong)
		checkSpots(t, mixedCorner(row), plank, firstSpotsByHand(plank))
	}
}

// Promise 6: both planks reach at all spots, and at no other whole numbers, told by the distances between the places as fractions.
func TestBothPlanksReach(t *testing.T) {
	row := &mixedRow{9}
	corners := []impl.Corner{cornerOf(1, 1), cornerOf(3, 3), cornerOf(1, 20), cornerOf(20, 1), cornerOf(12, 17)}
	for range 15 {
		corners = append(corners, cornerOf(1+row.next(20), 1+row.next(20)))
	}
	for _, c := range corners {
		for _, plank := range []int{2, 3, 1 + row.next(20), 5 + row.next(20)} {
			var want [][]int
			for a := 1; a <= plank+1; a++ {
				for b := 1; b <= plank+1; b++ {
					first := rationalSquare(ratio(a, 1), ratio(0, 1), ratio(0, 1), ratio(b, 1))
					if reachesByHand(plank, first) && reachesByHand(plank, squareFromMiddle(c, a, b)) {
						want = append(want, []int{a, b})
					}
				}
			}
			spots, ok := impl.SpotsFor(c, plank)
			wantRowsOr(t, fmt.Sprint("SpotsFor ", c, " ", plank), true, want, spots, ok)
		}
	}
}

// Promise 6: what the second plank needs is four times the square of the distance, whether a first plank reaches or not.
func TestSecondNeeds(t *testing.T) {
	row := &mixedRow{10}
	corners := edgeCorners()
	for range 10 {
		corners = append(corners, mixedCorner(row))
	}
	numbers := append(row.list(10, 1, impl.MaxPlankLong), 1, 2, 3, 100, 101, impl.MaxPlankLong-1, impl.MaxPlankLong)
	for _, c := range corners {
		for _, a := range numbers {
			for _, b := range numbers {
				needs, ok := impl.SecondNeeds(c, a, b)
				want := squareFromMiddle(c, a, b)
				want.Mul(want, ratio(4, 1))
				if !ok || want.Cmp(ratio(needs, 1)) != 0 {
					t.Error("SecondNeeds", c, a, b, "is", needs, ok, "want", want)
				}
			}
		}
	}
	// No plank of MaxPlankLong reaches between the ends of this one.
	needs, ok := impl.SecondNeeds(cornerOf(1, 1), impl.MaxPlankLong, impl.MaxPlankLong)
	wantInt(t, "SecondNeeds of a first plank that does not reach", 2*198*198, needs, ok)
	needs, ok = impl.SecondNeeds(cornerOf(impl.MaxDitch, impl.MaxDitch), impl.MaxPlankLong, impl.MaxPlankLong)
	wantInt(t, "SecondNeeds at the inner corner", 0, needs, ok)
}

// Promise 6: just 1000 spots are told, more are counted alone.
func TestMostSpots(t *testing.T) {
	cases := []struct{ wide, deep, plank, count int }{
		{42, 51, 51, 999}, {54, 90, 76, 1000}, {57, 90, 77, 1000}, {68, 80, 76, 1000}, {93, 69, 83, 1000}, {39, 45, 47, 1001}, {45, 39, 47, 1001}, {52, 59, 59, 1001},
		{1, 1, impl.MaxPlankLong, len(firstSpotsByHand(impl.MaxPlankLong))},
	}
	for _, n := range cases {
		c := cornerOf(n.wide, n.deep)
		what := fmt.Sprint(c, " ", n.plank)
		all := spotsByHand(c, n.plank, firstSpotsByHand(n.plank))
		count, ok := impl.CountSpots(c, n.plank)
		wantInt(t, "CountSpots "+what, n.count, count, ok)
		spots, ok := impl.SpotsFor(c, n.plank)
		wantRowsOr(t, "SpotsFor "+what, n.count <= 1000, all, spots, ok)
	}
}

// A plank that is 1 long has no spot, so that there is no best one.
func TestPlankOfOneHasNoSpot(t *testing.T) {
	for _, c := range edgeCorners() {
		checkSpots(t, c, 1, nil)
		checkSpots(t, c, 2, [][]int{{1, 1}})
	}
}

// Corners that planks are too short for have no spots, which is told, but a best one for the first plank.
func TestPlanksThatAreTooShort(t *testing.T) {
	for wide := 4; wide <= impl.MaxDitch; wide++ {
		c := cornerOf(wide, wide)
		spots, ok := impl.SpotsFor(c, 3)
		wantRowsOr(t, fmt.Sprint("SpotsFor ", c), true, nil, spots, ok)
		count, ok := impl.CountSpots(c, 3)
		wantInt(t, fmt.Sprint("CountSpots ", c), 0, count, ok)
		a, b, needs, ok := impl.BestSpot(c, 3)
		wantBest(t, fmt.Sprint("BestSpot ", c), true, [3]int{2, 2, 2 * (2*wide - 2) * (2*wide - 2)}, a, b, needs, ok)
	}
}

// Of several best spots the first one is told.
func TestSeveralBestSpots(t *testing.T) {
	cases := []struct{ wide, deep, plank, a, b, needs int }{
		{3, 3, 4, 2, 3, 25}, {10, 10, 4, 2, 3, 613}, {impl.MaxDitch, impl.MaxDitch, 4, 2, 3, 198*198 + 197*197}, {6, 6, 7, 4, 5, 113}, {2, 2, impl.MaxPlankLong, 4, 4, 0}, {1, 1, 2, 1, 1, 2}, {1, 2, 4, 2, 3, 1}, {2, 1, 4, 3, 2, 1},
	}
	for _, n := range cases {
		c := cornerOf(n.wide, n.deep)
		a, b, needs, ok := impl.BestSpot(c, n.plank)
		wantBest(t, fmt.Sprint("BestSpot ", c, " ", n.plank), true, [3]int{n.a, n.b, n.needs}, a, b, needs, ok)
	}
}

// Promise 6: the spots of a corner seen in a mirror are those of the corner, seen in a mirror.
func TestSpotsInMirror(t *testing.T) {
	row := &mixedRow{11}
	for range 60 {
		c, plank := cornerOf(1+row.next(30), 1+row.next(30)), 1+row.next(35)
		spots, ok := impl.SpotsFor(c, plank)
		for _, spot := range spots {
			slices.Reverse(spot)
		}
		slices.SortFunc(spots, slices.Compare)
		turned, fine := impl.TurnCorner(c)
		mirrored, isTold := impl.SpotsFor(turned, plank)
		wantRowsOr(t, fmt.Sprint("SpotsFor ", turned, " ", plank), ok && fine, spots, mirrored, isTold)
		least, ok := impl.LeastPlank(c)
		again, isTold := impl.LeastPlank(turned)
		wantIntOr(t, fmt.Sprint("LeastPlank ", turned), ok, least, again, isTold)
	}
}

// Promise 6: for all corners there is a spot for the least plank, and none for a shorter one.
func TestAllCorners(t *testing.T) {
	row := &mixedRow{12}
	for wide := 1; wide <= impl.MaxDitch; wide++ {
		for deep := 1; deep <= impl.MaxDitch; deep++ {
			c := cornerOf(wide, deep)
			checkCorner(t, c)
			if isSmall := wide <= 12 && deep <= 12; isSmall || row.next(20) == 0 {
				checkLeastPlank(t, c)
			}
		}
	}
	for _, c := range edgeCorners() {
		checkLeastPlank(t, c)
	}
}

// Promise 6: two planks are enough for a square ditch just if they are wherever the first one lies best, at whole places or not.
func TestSquareDitches(t *testing.T) {
	for wide := 1; wide <= impl.MaxDitch; wide++ {
		want := 0
		for plank := 1; plank <= impl.MaxPlankLong; plank++ {
			// The first plank lies half of its length away from the outer corner, the second one goes on from there.
			isEnough := float64(wide)*math.Sqrt2 <= float64(plank)/2+float64(plank)
			if want == 0 && isEnough {
				want = plank
			}
			can, ok := impl.CanSquare(wide, plank)
			wantBool(t, fmt.Sprint("CanSquare ", wide, " ", plank), isEnough, can, ok)
		}
		least, ok := impl.LeastSquarePlank(wide)
		wantInt(t, fmt.Sprint("LeastSquarePlank ", wide), want, least, ok)
		whole, ok := impl.LeastPlank(cornerOf(wide, wide))
		if whole < want || !ok {
			t.Error("LeastPlank of a ditch of", wide, "is", whole, ok, "less than", want)
		}
	}
}

// The greatest ditch may be wider than MaxDitch.
func TestGreatestSquares(t *testing.T) {
	for plank := 1; plank <= impl.MaxPlankLong; plank++ {
		want := int(float64(plank) * 3 / (2 * math.Sqrt2))
		greatest, ok := impl.GreatestSquare(plank)
		wantInt(t, fmt.Sprint("GreatestSquare ", plank), want, greatest, ok)
		if greatest <= impl.MaxDitch {
			can, ok := impl.CanSquare(greatest, plank)
			wantBool(t, fmt.Sprint("CanSquare ", greatest, " ", plank), true, can, ok)
		}
		if greatest < impl.MaxDitch {
			can, ok := impl.CanSquare(greatest+1, plank)
			wantBool(t, fmt.Sprint("CanSquare ", greatest+1, " ", plank), false, can, ok)
		}
	}
	for plank, want := range map[int]int{1: 1, 2: 2, 94: 99, 95: 100, impl.MaxPlankLong: 212} {
		greatest, ok := impl.GreatestSquare(plank)
		wantInt(t, fmt.Sprint("GreatestSquare ", plank), want, greatest, ok)
	}
}

// leansByHand returns all whole leans for planks up to most, and those whose numbers have no common divisor, made by the rule of m and n.
func leansByHand(most int) (leans, primes [][]int) {
	for m := 2; m*m <= most; m++ {
		for n := 1; n < m && m*m+n*n <= most; n++ {
			if (m-n)%2 == 0 || ratio(n, m).Denom().Int64() != int64(m) {
				continue
			}
			sides := []int{m*m - n*n, 2 * m * n, m*m + n*n}
			slices.Sort(sides)
			primes = append(primes, sides)
			for times := 1; times*sides[2] <= most; times++ {
				leans = append(leans, []int{times * sides[0], times * sides[1], times * sides[2]})
			}
		}
	}
	byPlank := func(one, other []int) int {
		if one[2] != other[2] {
			return one[2] - other[2]
		}
		return one[0] - other[0]
	}
	slices.SortFunc(leans, byPlank)
	slices.SortFunc(primes, byPlank)
	return leans, primes
}

func TestWholeLeans(t *testing.T) {
	all, _ := leansByHand(impl.MaxPlankLong)
	for plank := 1; plank <= impl.MaxPlankLong; plank++ {
		var want [][]int
		for _, lean := range all {
			if lean[2] == plank {
				want = append(want, lean[:2])
			}
		}
		leans, ok := impl.WholeLeans(plank)
		wantRowsOr(t, fmt.Sprint("WholeLeans ", plank), true, want, leans, ok)
	}
	for most := 1; most <= impl.MaxPlankLong; most++ {
		want, wantPrimes := leansByHand(most)
		leans, ok := impl.LeansUpTo(most)
		wantRowsOr(t, fmt.Sprint("LeansUpTo ", most), true, want, leans, ok)
		primes, ok := impl.PrimeLeans(most)
		wantRowsOr(t, fmt.Sprint("PrimeLeans ", most), true, wantPrimes, primes, ok)
	}
	leans, ok := impl.LeansUpTo(13)
	wantRowsOr(t, "LeansUpTo 13", true, [][]int{{3, 4, 5}, {6, 8, 10}, {5, 12, 13}}, leans, ok)
	primes, ok := impl.PrimeLeans(13)
	wantRowsOr(t, "PrimeLeans 13", true, [][]int{{3, 4, 5}, {5, 12, 13}}, primes, ok)
	most, ok := impl.WholeLeans(impl.MaxPlankLong)
	wantRowsOr(t, "WholeLeans of MaxPlankLong", true, [][]int{{56, 192}, {120, 160}}, most, ok)
}

// leanByHand returns the greatest height for a square, looked for from above, and what is left.
func leanByHand(plank, foot int) (height, left int) {
	height = plank
	for height*height+foot*foot > plank*plank {
		height--
	}
	return height, plank*plank - foot*foot - height*height
}

// Promise 6: heights are the greatest whole ones, for all planks and feet, and for all steps out.
func TestHeightsOfLeans(t *testing.T) {
	for plank := 1; plank <= impl.MaxPlankLong; plank++ {
		for foot := range plank + 1 {
			what := fmt.Sprint(plank, " ", foot)
			want, wantLeft := leanByHand(plank, foot)
			height, left, ok := impl.LeanHeight(plank, foot)
			wantTwo(t, "LeanHeight "+what, true, want, wantLeft, height, left, ok)
			if above := (height + 1) * (height + 1); left < 0 || height*height+foot*foot+left != plank*plank || above+foot*foot <= plank*plank {
				t.Error("LeanHeight", what, "is not the greatest:", height, left)
			}
			for _, by := range []int{0, 1, 2, foot, plank - foot - 1, plank - foot, plank - foot + 1, plank, impl.MaxPlankLong} {
				checkStepOut(t, plank, foot, max(by, 0))
			}
		}
	}
}

func checkStepOut(t *testing.T, plank, foot, by int) {
	t.Helper()
	exists := foot+by <= plank
	want, wantLeft := 0, 0
	if exists {
		want, wantLeft = leanByHand(plank, foot+by)
	}
	height, left, ok := impl.StepOut(plank, foot, by)
	wantTwo(t, fmt.Sprint("StepOut ", plank, " ", foot, " ", by), exists, want, wantLeft, height, left, ok)
}

func TestEdgesOfLeans(t *testing.T) {
	cases := []struct{ plank, foot, height, left int }{
		{1, 0, 1, 0}, {1, 1, 0, 0}, {2, 1, 1, 2}, {5, 0, 5, 0}, {5, 3, 4, 0}, {5, 4, 3, 0}, {5, 5, 0, 0}, {5, 2, 4, 5}, {10, 1, 9, 18}, {13, 5, 12, 0}, {13, 12, 5, 0}, {25, 7, 24, 0}, {25, 8, 23, 32},
		{impl.MaxPlankLong, 0, impl.MaxPlankLong, 0}, {impl.MaxPlankLong, 1, 199, 398}, {impl.MaxPlankLong, 56, 192, 0}, {impl.MaxPlankLong, 199, 19, 38}, {impl.MaxPlankLong, impl.MaxPlankLong, 0, 0},
	}
	for _, n := range cases {
		what := fmt.Sprint(n.plank, " ", n.foot)
		height, left, ok := impl.LeanHeight(n.plank, n.foot)
		wantTwo(t, "LeanHeight "+what, true, n.height, n.left, height, left, ok)
		height, left, ok = impl.StepOut(n.plank, n.foot, 0)
		wantTwo(t, "StepOut of 0 "+what, true, n.height, n.left, height, left, ok)
		height, left, ok = impl.StepOut(n.plank, 0, n.foot)
		wantTwo(t, "StepOut from the wall "+what, true, n.height, n.left, height, left, ok)
		height, left, ok = impl.StepOut(n.plank, n.foot, n.plank-n.foot+1)
		wantTwo(t, "StepOut too far "+what, false, 0, 0, height, left, ok)
	}
}

// leastDeepByHand returns the least depth of a corridor around whose corner a plank can be carried, 1 if no line is tried.
func leastDeepByHand(wide, plank int) int {
	deep := 1
	for a := plank - 1; a > wide; a-- {
		for deep*deep*a*a < (plank-a)*(plank+a)*(a-wide)*(a-wide) {
			deep++
		}
	}
	return deep
}

func checkTurn(t *testing.T, wide, deep, plank int, want bool) {
	t.Helper()
	can, ok := impl.CanTurn(wide, deep, plank)
	wantBool(t, fmt.Sprint("CanTurn ", wide, " ", deep, " ", plank), want, can, ok)
}

func TestTurns(t *testing.T) {
	for wide := 1; wide <= impl.MaxDitch; wide++ {
		for plank := 1; plank <= impl.MaxPlankLong; plank++ {
			least := leastDeepByHand(wide, plank)
			for _, deep := range []int{1, least - 1, least, least + 1, impl.MaxDitch} {
				if 1 <= deep && deep <= impl.MaxDitch {
					checkTurn(t, wide, deep, plank, deep >= least)
				}
			}
		}
	}
}

// The square of the height of each line at the corner is told as a fraction.
func TestTurnsByLines(t *testing.T) {
	for wide := 1; wide <= 9; wide++ {
		for deep := 1; deep <= 12; deep++ {
			for plank := 1; plank <= 30; plank++ {
				want := true
				for a := wide + 1; a < plank; a++ {
					slope := ratio(a-wide, a)
					square := slope.Mul(slope, slope).Mul(slope, ratio(plank*plank-a*a, 1))
					want = want && square.Cmp(ratio(deep*deep, 1)) <= 0
				}
				checkTurn(t, wide, deep, plank, want)
			}
		}
	}
}

// A plank that can be carried around with any numbers can be so with whole ones; one that is no longer than the corridor is wide, or by 1, is not tried at all.
func TestPlanksThatTurn(t *testing.T) {
	for wide := 1; wide <= impl.MaxDitch; wide += 3 {
		for deep := 1; deep <= impl.MaxDitch; deep += 3 {
			long := math.Pow(math.Cbrt(float64(wide*wide))+math.Cbrt(float64(deep*deep)), 1.5)
			for plank := 1; plank <= impl.MaxPlankLong && float64(plank) < long-1e-6; plank++ {
				checkTurn(t, wide, deep, plank, true)
			}
		}
		for plank := 1; plank <= wide+1; plank++ {
			checkTurn(t, wide, 1, plank, true)
		}
	}
	checkTurn(t, impl.MaxDitch, 1, impl.MaxDitch, true)
	checkTurn(t, impl.MaxDitch, impl.MaxDitch, impl.MaxPlankLong, true)
	checkTurn(t, 1, impl.MaxDitch, impl.MaxPlankLong, false)
	checkTurn(t, impl.MaxDitch, 1, impl.MaxPlankLong, false)
	// Lines that just touch the inner corner: with a of 12, 24 and 84 they begin 9, 18 and 35 high.
	for _, n := range []struct{ wide, deep, plank int }{{8, 3, 15}, {16, 6, 30}, {72, 5, 91}} {
		checkTurn(t, n.wide, n.deep, n.plank, true)
		checkTurn(t, n.wide, n.deep-1, n.plank, false)
		checkTurn(t, n.wide-1, n.deep, n.plank, false)
	}
}

// cornerPattern is what all texts of corners look like.
var cornerPattern = regexp.MustCompile(`^([1-9][0-9]?|100)x([1-9][0-9]?|100)$`)

func checkCornerParse(t *testing.T, text string) {
	t.Helper()
	var want impl.Corner
	isText := cornerPattern.MatchString(text)
	if isText {
		fmt.Sscanf(text, "%dx%d", &want.Wide, &want.Deep)
	}
	c, ok := impl.ParseCorner(text)
	wantCorner(t, fmt.Sprintf("ParseCorner %.40q", text), isText, want, c, ok)
}

func TestChangedTextsOfCorners(t *testing.T) {
	for _, text := range []string{"3x3", "1x1", "10x9", "99x10", "100x100", "1x100"} {
		checkCornerParse(t, text)
		for _, changed := range changedTexts(text) {
			checkCornerParse(t, changed)
			for _, again := range changedTexts(changed) {
				checkCornerParse(t, again)
			}
		}
	}
}

// Promise 11: texts that tell no corner, with superfluous zeros, signs and others, make ParseCorner fail with no corner.
func TestTextsThatAreNoCorners(t *testing.T) {
	for _, text := range []string{
		"", "x", "3", "3x", "x3", "33", "xx", "3xx3", "3x3x", "x3x3", "3x3x3", "0x3", "3x0", "0x0", "00x3", "3x00", "03x3", "3x03", "003x3", "101x3", "3x101", "101x101", "1000x1", "1x1000", "200x3",
		"-3x3", "3x-3", "-3x-3", "-0x3", "+3x3", "3x+3", "+0x3", "3 x3", "3x 3", " 3x3", "3x3 ", "3 3", "3x3\n", "\n3x3", "\n", "\x003x3", "3\x00x3", "3x3\x00", "3X3", "3*3", "3×3", "3х3", "3,3", "3-3", "3.0x3", "3x3.0", "3x3,", "1_0x3", "3x1_0", "0x3x3", "0x3x0x3", "1e1x3", "3x1e1",
		"٣x٣", "３x３", "²x3", "3x\xff", "\xffx3", "ax3", "3xa", "axb", "9223372036854775807x3", "3x9223372036854775808", "18446744073709551619x3", "3x18446744073709551619", "4294967299x3", "3x-9223372036854775808",
		strings.Repeat("0", 100000) + "3x3", "3x" + strings.Repeat("0", 100000) + "3", strings.Repeat("3", 100000) + "x3", strings.Repeat("x", 100000), "3x" + strings.Repeat("3x", 100000), strings.Repeat("9", 100000),
	} {
		if cornerPattern.MatchString(text) {
			t.Errorf("the case is told wrongly: %.40q", text)
		}
		checkCornerParse(t, text)
	}
}

// cornerNumbers are the numbers of a call, each in its bounds unless a test sets it otherwise.
type cornerNumbers struct {
	plank, a, b, wide, deep, most, foot, by int
}

var goodCornerNumbers = cornerNumbers{plank: 9, a: 2, b: 3, wide: 4, deep: 5, most: 20, foot: 2, by: 1}

// cornerCalls returns all calls of chapter 6 with numbers, told by the results that should be zero if it fails.
func cornerCalls(c impl.Corner, n cornerNumbers) map[string]string {
	told := map[string]string{}
	tell := func(name string, isZero, ok bool, results ...any) {
		if told[name] = fmt.Sprint(results, ok); isZero {
			told[name] = fmt.Sprint(0, ok)
		}
		if ok {
			told[name] = fmt.Sprint(results, " true")
		}
	}
	number := func(name string, k int, ok bool) { tell(name, k == 0, ok, k) }
	fact := func(name string, isSo, ok bool) { tell(name, !isSo, ok, isSo) }
	two := func(name string, k, m int, ok bool) { tell(name, k == 0 && m == 0, ok, k, m) }
	lists := func(name string, a [][]int, ok bool) { tell(name, len(a) == 0, ok, a) }
	k, ok := impl.SquareToInner(c)
	number("SquareToInner", k, ok)
	isSo, ok := impl.NeedsCorner(c, n.plank)
	fact("NeedsCorner", isSo, ok)
	k, ok = impl.SecondNeeds(c, n.a, n.b)
	number("SecondNeeds", k, ok)
	list, ok := impl.SpotsFor(c, n.plank)
	lists("SpotsFor", list, ok)
	k, ok = impl.CountSpots(c, n.plank)
	number("CountSpots", k, ok)
	k, m, needs, ok := impl.BestSpot(c, n.plank)
	tell("BestSpot", k == 0 && m == 0 && needs == 0, ok, k, m, needs)
	k, ok = impl.LeastPlank(c)
	number("LeastPlank", k, ok)
	isSo, ok = impl.CanSquare(n.wide, n.plank)
	fact("CanSquare", isSo, ok)
	k, ok = impl.LeastSquarePlank(n.wide)
	number("LeastSquarePlank", k, ok)
	k, ok = impl.GreatestSquare(n.plank)
	number("GreatestSquare", k, ok)
	list, ok = impl.WholeLeans(n.plank)
	lists("WholeLeans", list, ok)
	list, ok = impl.LeansUpTo(n.most)
	lists("LeansUpTo", list, ok)
	list, ok = impl.PrimeLeans(n.most)
	lists("PrimeLeans", list, ok)
	k, m, ok = impl.LeanHeight(n.plank, n.foot)
	two("LeanHeight", k, m, ok)
	k, m, ok = impl.StepOut(n.plank, n.foot, n.by)
	two("StepOut", k, m, ok)
	isSo, ok = impl.CanTurn(n.wide, n.deep, n.plank)
	fact("CanTurn", isSo, ok)
	turned, ok := impl.TurnCorner(c)
	tell("TurnCorner", turned == impl.Corner{}, ok, turned)
	text, ok := impl.CornerText(c)
	tell("CornerText", text == "", ok, text)
	return told
}

// Promise 11: corners that are none make all calls with them fail with zero values, and no others.
func TestCornersThatAreNone(t *testing.T) {
	requireFailures(t, "good numbers", cornerCalls(cornerOf(3, 4), goodCornerNumbers))
	withCorner := []string{"SquareToInner", "NeedsCorner", "SecondNeeds", "SpotsFor", "CountSpots", "BestSpot", "LeastPlank", "TurnCorner", "CornerText"}
	for _, n := range append(oddNumbers, 99, 101, 200, 201) {
		isGood := 1 <= n && n <= impl.MaxDitch
		failing := withCorner
		if isGood {
			failing = nil
		}
		for _, c := range []impl.Corner{cornerOf(n, n), cornerOf(n, 1), cornerOf(1, n), cornerOf(n, 3), cornerOf(3, n), cornerOf(n, impl.MaxDitch), cornerOf(impl.MaxDitch, n)} {
			if impl.IsCorner(c) != isGood {
				t.Error("IsCorner is not", isGood, "of", c)
			}
			requireFailures(t, fmt.Sprint(c), cornerCalls(c, goodCornerNumbers), failing...)
		}
		if !isGood {
			requireFailures(t, fmt.Sprint("0 and ", n), cornerCalls(cornerOf(0, n), goodCornerNumbers), withCorner...)
		}
	}
}

// Promise 11: numbers out of their bounds make the calls with them fail with zero values, and no others.
func TestCornerNumbersOutOfBounds(t *testing.T) {
	c := cornerOf(impl.MaxDitch, impl.MaxDitch)
	longest := cornerNumbers{plank: impl.MaxPlankLong, a: 1, b: 1, wide: 1, deep: 1, most: 1, foot: 0, by: 0}
	kinds := []struct {
		name        string
		least, most int
		set         func(n *cornerNumbers, to int)
		failing     []string
	}{
		{"a plank", 1, impl.MaxPlankLong, func(n *cornerNumbers, to int) { n.plank = to }, []string{"NeedsCorner", "SpotsFor", "CountSpots", "BestSpot", "CanSquare", "GreatestSquare", "WholeLeans", "LeanHeight", "StepOut", "CanTurn"}},
		{"an a", 1, impl.MaxPlankLong, func(n *cornerNumbers, to int) { n.a = to }, []string{"SecondNeeds"}},
		{"a b", 1, impl.MaxPlankLong, func(n *cornerNumbers, to int) { n.b = to }, []string{"SecondNeeds"}},
		{"a width", 1, impl.MaxDitch, func(n *cornerNumbers, to int) { n.wide = to }, []string{"CanSquare", "LeastSquarePlank", "CanTurn"}},
		{"a depth", 1, impl.MaxDitch, func(n *cornerNumbers, to int) { n.deep = to }, []string{"CanTurn"}},
		{"a most", 1, impl.MaxPlankLong, func(n *cornerNumbers, to int) { n.most = to }, []string{"LeansUpTo", "PrimeLeans"}},
		{"a foot", 0, impl.MaxPlankLong, func(n *cornerNumbers, to int) { n.foot = to }, []string{"LeanHeight", "StepOut"}},
		{"a step", 0, impl.MaxPlankLong, func(n *cornerNumbers, to int) { n.by = to }, []string{"StepOut"}},
		{"a foot of 7", 0, 7, func(n *cornerNumbers, to int) { n.plank, n.foot = 7, to }, []string{"LeanHeight", "StepOut"}},
		{"a step of a foot of 7", 0, 193, func(n *cornerNumbers, to int) { n.foot, n.by = 7, to }, []string{"StepOut"}},
		{"a step back", 1, 0, func(n *cornerNumbers, to int) { n.foot, n.by = 100, min(to, -1) }, []string{"StepOut"}},
		{"a step from behind the wall", 1, 0, func(n *cornerNumbers, to int) { n.foot, n.by = min(to, -1), 100 }, []string{"LeanHeight", "StepOut"}},
		{"a step back from too far away", 1, 0, func(n *cornerNumbers, to int) { n.foot, n.by = impl.MaxPlankLong+max(to, 1), -100 }, []string{"LeanHeight", "StepOut"}},
	}
	for _, kind := range kinds {
		for _, to := range append(oddNumbers, kind.least-1, kind.least, kind.least+1, kind.most-1, kind.most, kind.most+1, 199, 200, 201) {
			n := longest
			kind.set(&n, to)
			failing := slices.Clone(kind.failing)
			if kind.least <= to && to <= kind.most {
				failing = nil
				if n.plank == 1 {
					failing = append(failing, "BestSpot")
				}
			}
			if count, _ := impl.CountSpots(c, n.plank); count > 1000 {
				failing = append(failing, "SpotsFor")
			}
			requireFailures(t, fmt.Sprint(kind.name, " ", to), cornerCalls(c, n), failing...)
		}
	}
}

// Promise 11: no call panics, whatever numbers are put together, and no call changes a later one.
func TestCornerCallsAreTotal(t *testing.T) {
	numbers := append(oddNumbers, 3, 99, 101, 199, 200, 201)
	for _, x := range numbers {
		for _, y := range numbers {
			n := cornerNumbers{x, y, x, y, x, y, y, x}
			for _, c := range []impl.Corner{cornerOf(x, y), cornerOf(3, y), cornerOf(3, 3)} {
				isCorner := impl.IsCorner(c)
				first, again := cornerCalls(c, n), cornerCalls(c, n)
				for name, told := range first {
					if told != again[name] {
						t.Errorf("%s %v %v: %s, then %s", name, c, n, told, again[name])
					}
				}
				if isCorner != impl.IsCorner(c) {
					t.Error("IsCorner", c)
				}
			}
		}
	}
}

// Promise 11: lists that are returned are new memory, and no two of one result share any.
func TestCornerResultsAreNew(t *testing.T) {
	c := cornerOf(3, 4)
	wantNewRows(t, map[string]func() ([][]int, bool){
		"SpotsFor":   func() ([][]int, bool) { return impl.SpotsFor(c, 5) },
		"WholeLeans": func() ([][]int, bool) { return impl.WholeLeans(65) },
		"LeansUpTo":  func() ([][]int, bool) { return impl.LeansUpTo(30) },
		"PrimeLeans": func() ([][]int, bool) { return impl.PrimeLeans(30) },
	})
	if c != cornerOf(3, 4) {
		t.Error("a call changes its corner:", c)
	}
}

// Promise 11: leans are told without the plank, which is not in the room behind them either.
func TestWholeLeansHandOutNoRoom(t *testing.T) {
	for _, plank := range []int{5, 25, 65, impl.MaxPlankLong} {
		leans, ok := impl.WholeLeans(plank)
		if len(leans) == 0 || !ok {
			t.Error("WholeLeans gives nothing to look at:", plank, ok)
		}
		for _, lean := range leans {
			if room := lean[:cap(lean)]; slices.Contains(room[2:], plank) {
				t.Error("WholeLeans", plank, "hands out", room)
			}
		}
	}
}

// Promise 11: a text that is returned is new memory, and a corner read from a text is read from that alone.
func TestCornerTextIsNew(t *testing.T) {
	for _, text := range []string{"3x3", "1x100"} {
		given := strings.Clone(text)
		c, _ := impl.ParseCorner(given)
		told, ok := impl.CornerText(c)
		if told != text || given != text || !ok || unsafe.StringData(told) == unsafe.StringData(given) {
			t.Errorf("CornerText hands out the text that was read, or another one: %q %v", told, ok)
		}
	}
}
