package tests

import (
	"fmt"
	"math"
	"runtime"
	"slices"
	"sync"
	"testing"
	"time"

	"loop.example/g01352/impl"
)

// exampleOrder returns a new list each time, so that no test changes that of another one.
func exampleOrder() []int { return []int{3, 1, 2} }

// rowOfBoats is an order, with zeros behind it, that can be a key.
type rowOfBoats [impl.MaxBoats]int

func rowOf(order []int) rowOfBoats {
	var row rowOfBoats
	copy(row[:], order)
	return row
}

// rightByHand returns the boats 1, 2, .. in their order.
func rightByHand(boats int) []int {
	var order []int
	for boat := 1; boat <= boats; boat++ {
		order = append(order, boat)
	}
	return order
}

func turnedRound(order []int) []int {
	turned := slices.Clone(order)
	slices.Reverse(turned)
	return turned
}

// ordersOf returns all orders of so many boats, in lexicographic order.
func ordersOf(boats int) [][]int {
	orders := [][]int{nil}
	for range boats {
		var longer [][]int
		for _, order := range orders {
			for boat := 1; boat <= boats; boat++ {
				if !slices.Contains(order, boat) {
					longer = append(longer, append(slices.Clone(order), boat))
				}
			}
		}
		orders = longer
	}
	return orders
}

func smallOrders(most int) [][]int {
	var orders [][]int
	for boats := 1; boats <= most; boats++ {
		orders = append(orders, ordersOf(boats)...)
	}
	return orders
}

func mixedOrder(row *mixedRow, boats int) []int {
	order := rightByHand(boats)
	for i := range order {
		k := i + row.next(boats-i)
		order[i], order[k] = order[k], order[i]
	}
	return order
}

// boatMove is how a change of an order is told, and the order behind it.
type boatMove struct {
	told   []int
	behind []int
}

func swappedByHand(order []int, a, b int) []int {
	swapped := slices.Clone(order)
	swapped[a], swapped[b] = order[b], order[a]
	return swapped
}

// movedByHand puts the boat at a place in behind as many others as come before it then.
func movedByHand(order []int, from, to int) []int {
	var others, moved []int
	for place, boat := range order {
		if place != from {
			others = append(others, boat)
		}
	}
	moved = append(moved, others[:to]...)
	moved = append(moved, order[from])
	return append(moved, others[to:]...)
}

func turnedByPlaces(order []int, many int) []int {
	turned := slices.Clone(order)
	for place := range many {
		turned[place] = order[many-1-place]
	}
	return turned
}

func neighbourSwapsByHand(order []int) []boatMove {
	var moves []boatMove
	for a := range len(order) - 1 {
		moves = append(moves, boatMove{[]int{a}, swappedByHand(order, a, a+1)})
	}
	return moves
}

func swapsByHand(order []int) []boatMove {
	var moves []boatMove
	for a := range order {
		for b := a + 1; b < len(order); b++ {
			moves = append(moves, boatMove{[]int{a, b}, swappedByHand(order, a, b)})
		}
	}
	return moves
}

func insertsByHand(order []int) []boatMove {
	var moves []boatMove
	for from := range order {
		for to := range order {
			moves = append(moves, boatMove{[]int{from, to}, movedByHand(order, from, to)})
		}
	}
	return moves
}

func turnsByHand(order []int) []boatMove {
	var moves []boatMove
	for many := range order {
		moves = append(moves, boatMove{[]int{many + 1}, turnedByPlaces(order, many+1)})
	}
	return moves
}

// boatSearch knows for all orders of some numbers of boats how many moves of a kind they are away from the right one: each move can be taken back by one.
type boatSearch struct {
	movesOf func(order []int) []boatMove
	away    map[rowOfBoats]int
}

func searchOfBoats(boats int, movesOf func(order []int) []boatMove) boatSearch {
	s := boatSearch{movesOf, map[rowOfBoats]int{}}
	next := [][]int{rightByHand(boats)}
	s.away[rowOf(next[0])] = 0
	for i := 0; i < len(next); i++ {
		for _, move := range movesOf(next[i]) {
			if _, isKnown := s.away[rowOf(move.behind)]; !isKnown {
				s.away[rowOf(move.behind)] = s.away[rowOf(next[i])] + 1
				next = append(next, move.behind)
			}
		}
	}
	return s
}

// first returns the first list of the fewest moves to the right order.
func (s boatSearch) first(order []int) [][]int {
	var list [][]int
search:
	for s.away[rowOf(order)] > 0 {
		for _, move := range s.movesOf(order) {
			if s.away[rowOf(move.behind)] < s.away[rowOf(order)] {
				list = append(list, move.told)
				order = move.behind
				continue search
			}
		}
	}
	return list
}

// listsToRight returns all lists of so many moves that lead to the right order.
func listsToRight(order []int, moves int, movesOf func(order []int) []boatMove) [][][]int {
	if moves == 0 && slices.IsSorted(order) {
		return [][][]int{nil}
	}
	var lists [][][]int
	if moves > 0 {
		for _, move := range movesOf(order) {
			for _, rest := range listsToRight(move.behind, moves-1, movesOf) {
				lists = append(lists, append([][]int{move.told}, rest...))
			}
		}
	}
	return lists
}

// boatSearches has a search for each kind of moves.
type boatSearches struct{ neighbours, swaps, inserts, turns boatSearch }

func searchesOfBoats(boats int) boatSearches {
	return boatSearches{searchOfBoats(boats, neighbourSwapsByHand), searchOfBoats(boats, swapsByHand), searchOfBoats(boats, insertsByHand), searchOfBoats(boats, turnsByHand)}
}

// flatList returns the numbers of lists of one number each.
func flatList(lists [][]int) []int {
	var numbers []int
	for _, list := range lists {
		numbers = append(numbers, list...)
	}
	return numbers
}

// risingByHand returns the first one of the longest lists of places whose boats rise. All lists of places come in lexicographic order.
func risingByHand(order []int, places [][]int) []int {
	var best []int
	for _, list := range places {
		if len(list) > len(best) && slices.IsSorted(picked(order, list)) {
			best = list
		}
	}
	return best
}

// cyclesByHand goes from each place that no cycle has yet around to it.
func cyclesByHand(order []int) [][]int {
	var cycles [][]int
	isTold := map[int]bool{}
	for from := range order {
		if isTold[from] {
			continue
		}
		var cycle []int
		for place := from; !isTold[place]; place = order[place] - 1 {
			isTold[place] = true
			cycle = append(cycle, place)
		}
		cycles = append(cycles, cycle)
	}
	return cycles
}

func followedByHand(a, b []int) []int {
	var following []int
	for _, boat := range a {
		following = append(following, b[boat-1])
	}
	return following
}

func roundsByHand(order []int) int {
	rounds := 1
	for row := order; !slices.IsSorted(row); row = followedByHand(row, order) {
		rounds++
	}
	return rounds
}

func backByHand(order []int) []int {
	var back []int
	for boat := 1; boat <= len(order); boat++ {
		back = append(back, slices.Index(order, boat)+1)
	}
	return back
}

func invertedByHand(order []int) int {
	inverted := 0
	for _, two := range partsOf(len(order)) {
		if len(two) == 2 && order[two[0]] > order[two[1]] {
			inverted++
		}
	}
	return inverted
}

// checkFewest compares the fewest moves of all kinds, and their first lists, with searches.
func checkFewest(t *testing.T, order []int, s boatSearches) {
	t.Helper()
	what := fmt.Sprint(order)
	row := rowOf(order)
	n, ok := impl.CountInverted(order)
	wantInt(t, "CountInverted "+what, s.neighbours.away[row], n, ok)
	list, ok := impl.FirstNeighbourSwaps(order)
	wantList(t, "FirstNeighbourSwaps "+what, flatList(s.neighbours.first(order)), list, ok)
	n, ok = impl.FewestSwaps(order)
	wantInt(t, "FewestSwaps "+what, s.swaps.away[row], n, ok)
	rows, ok := impl.FirstSwaps(order)
	wantRowsOr(t, "FirstSwaps "+what, true, s.swaps.first(order), rows, ok)
	n, ok = impl.FewestInserts(order)
	wantInt(t, "FewestInserts "+what, s.inserts.away[row], n, ok)
	n, ok = impl.FewestTurns(order)
	wantIntOr(t, "FewestTurns "+what, len(order) <= 7, s.turns.away[row], n, ok)
}

// checkOrder compares what is told of an order without a search. All lists of its places are told in lexicographic order.
func checkOrder(t *testing.T, order []int, places [][]int) {
	t.Helper()
	what := fmt.Sprint(order)
	if !impl.IsOrder(order) {
		t.Error("IsOrder is false of", order)
	}
	n, ok := impl.CountInverted(order)
	wantInt(t, "CountInverted "+what, invertedByHand(order), n, ok)
	rising := risingByHand(order, places)
	list, ok := impl.LongestRising(order)
	wantList(t, "LongestRising "+what, rising, list, ok)
	n, ok = impl.FewestInserts(order)
	wantInt(t, "FewestInserts "+what, len(order)-len(rising), n, ok)
	cycles := cyclesByHand(order)
	rows, ok := impl.CyclesOfOrder(order)
	wantRowsOr(t, "CyclesOfOrder "+what, true, cycles, rows, ok)
	n, ok = impl.FewestSwaps(order)
	wantInt(t, "FewestSwaps "+what, len(order)-len(cycles), n, ok)
	n, ok = impl.RoundsHome(order)
	wantInt(t, "RoundsHome "+what, roundsByHand(order), n, ok)
	list, ok = impl.BackOrder(order)
	wantList(t, "BackOrder "+what, backByHand(order), list, ok)
}

// checkMovesOf compares all changes of an order, and those that there are not.
func checkMovesOf(t *testing.T, order []int) {
	t.Helper()
	for a := -2; a <= len(order)+1; a++ {
		isA := 0 <= a && a < len(order)
		for b := -2; b <= len(order)+1; b++ {
			isB := 0 <= b && b < len(order)
			what := fmt.Sprint(order, " ", a, " ", b)
			var swapped, moved []int
			if isA && isB {
				swapped, moved = swappedByHand(order, a, b), movedByHand(order, a, b)
			}
			list, ok := impl.SwapBoats(order, a, b)
			wantListOr(t, "SwapBoats "+what, isA && isB && a != b, swapped, list, ok)
			list, ok = impl.MoveBoat(order, a, b)
			wantListOr(t, "MoveBoat "+what, isA && isB, moved, list, ok)
		}
		var turned []int
		canTurn := 1 <= a && a <= len(order)
		if canTurn {
			turned = turnedByPlaces(order, a)
		}
		list, ok := impl.TurnFront(order, a)
		wantListOr(t, fmt.Sprint("TurnFront ", order, " ", a), canTurn, turned, list, ok)
	}
}

func checkFollow(t *testing.T, a, b []int) {
	t.Helper()
	isOne := len(a) == len(b)
	var want []int
	if isOne {
		want = followedByHand(a, b)
	}
	list, ok := impl.FollowOrder(a, b)
	wantListOr(t, fmt.Sprint("FollowOrder ", a, " ", b), isOne, want, list, ok)
}

func checkRank(t *testing.T, order []int, rank int) {
	t.Helper()
	n, ok := impl.RankOfOrder(order)
	wantInt(t, fmt.Sprint("RankOfOrder ", order), rank, n, ok)
	list, ok := impl.OrderOfRank(len(order), rank)
	wantList(t, fmt.Sprint("OrderOfRank ", len(order), " ", rank), order, list, ok)
}

func TestPontoonExample(t *testing.T) {
	order := exampleOrder()
	n, ok := impl.CountInverted(order)
	wantInt(t, "CountInverted", 2, n, ok)
	list, ok := impl.FirstNeighbourSwaps(order)
	wantList(t, "FirstNeighbourSwaps", []int{0, 1}, list, ok)
	rows, ok := impl.CyclesOfOrder(order)
	wantRowsOr(t, "CyclesOfOrder", true, [][]int{{0, 2, 1}}, rows, ok)
	n, ok = impl.FewestSwaps(order)
	wantInt(t, "FewestSwaps", 2, n, ok)
	rows, ok = impl.FirstSwaps(order)
	wantRowsOr(t, "FirstSwaps", true, [][]int{{0, 1}, {1, 2}}, rows, ok)
	n, ok = impl.FewestInserts(order)
	wantInt(t, "FewestInserts", 1, n, ok)
	list, ok = impl.LongestRising(order)
	wantList(t, "LongestRising", []int{1, 2}, list, ok)
	n, ok = impl.RoundsHome(order)
	wantInt(t, "RoundsHome", 3, n, ok)
	list, ok = impl.BackOrder(order)
	wantList(t, "BackOrder", []int{2, 3, 1}, list, ok)
	n, ok = impl.FewestTurns(order)
	wantInt(t, "FewestTurns", 2, n, ok)
	list, ok = impl.TurnFront(order, 3)
	wantList(t, "TurnFront 3", []int{2, 1, 3}, list, ok)
	list, ok = impl.TurnFront(list, 2)
	wantList(t, "TurnFront 2", []int{1, 2, 3}, list, ok)
	n, ok = impl.CountWithInverted(3, 1)
	wantInt(t, "CountWithInverted", 2, n, ok)
	n, ok = impl.CountWithCycles(3, 2)
	wantInt(t, "CountWithCycles", 3, n, ok)
	n, ok = impl.RankOfOrder(order)
	wantInt(t, "RankOfOrder", 4, n, ok)
	list, ok = impl.OrderOfRank(3, 4)
	wantList(t, "OrderOfRank", order, list, ok)
}

// Promise 8: all small orders come to the right one by as few moves as a search finds, the first ones of several.
func TestSmallOrders(t *testing.T) {
	for boats := 1; boats <= 6; boats++ {
		s, places := searchesOfBoats(boats), partsOf(boats)
		for _, order := range ordersOf(boats) {
			checkOrder(t, order, places)
			checkFewest(t, order, s)
			checkMovesOf(t, order)
		}
	}
}

// Promise 8: the same for orders of 7 boats and of MaxBoats.
func TestMixedOrders(t *testing.T) {
	row := &mixedRow{15}
	for boats := 7; boats <= impl.MaxBoats; boats++ {
		s, places := searchesOfBoats(boats), partsOf(boats)
		orders := [][]int{rightByHand(boats), turnedRound(rightByHand(boats))}
		for range 300 {
			orders = append(orders, mixedOrder(row, boats))
		}
		for _, order := range orders {
			checkOrder(t, order, places)
			checkFewest(t, order, s)
			checkMovesOf(t, order)
		}
	}
}

// Promise 8: no other list of as few swaps that leads to the right order comes before the first one, and no list of fewer does.
func TestAllListsOfSwaps(t *testing.T) {
	for _, order := range smallOrders(4) {
		what := fmt.Sprint(order)
		neighbours, ok := impl.FirstNeighbourSwaps(order)
		var asRows [][]int
		for _, place := range neighbours {
			asRows = append(asRows, []int{place})
		}
		checkFirstList(t, "FirstNeighbourSwaps "+what, order, asRows, ok, neighbourSwapsByHand)
		swaps, ok := impl.FirstSwaps(order)
		checkFirstList(t, "FirstSwaps "+what, order, swaps, ok, swapsByHand)
	}
}

// checkFirstList compares a list of moves with all those that are as long.
func checkFirstList(t *testing.T, what string, order []int, list [][]int, ok bool, movesOf func(order []int) []boatMove) {
	t.Helper()
	moves := 0
	lists := listsToRight(order, moves, movesOf)
	for len(lists) == 0 {
		moves++
		lists = listsToRight(order, moves, movesOf)
	}
	first := slices.MinFunc(lists, func(one, other [][]int) int { return slices.CompareFunc(one, other, slices.Compare) })
	wantRowsOr(t, what, true, first, list, ok)
}

// Promise 8: the swaps that are told, made one after the other by the calls for them, lead to the right order.
func TestSwapsLeadToRightOrder(t *testing.T) {
	row := &mixedRow{16}
	orders := smallOrders(5)
	for range 200 {
		orders = append(orders, mixedOrder(row, impl.MaxBoats), mixedOrder(row, 7))
	}
	for _, order := range orders {
		swaps, ok := impl.FirstSwaps(order)
		behind := order
		for _, swap := range swaps {
			if swap[0] >= swap[1] {
				t.Error("the greater place comes first:", order, swaps)
			}
			behind, _ = impl.SwapBoats(behind, swap[0], swap[1])
		}
		wantList(t, fmt.Sprint("FirstSwaps lead ", order), rightByHand(len(order)), behind, ok)
		fewest, ok := impl.FewestSwaps(order)
		wantInt(t, fmt.Sprint("FewestSwaps ", order), len(swaps), fewest, ok)
		places, ok := impl.FirstNeighbourSwaps(order)
		behind = order
		for _, place := range places {
			behind, _ = impl.SwapBoats(behind, place+1, place)
		}
		wantList(t, fmt.Sprint("FirstNeighbourSwaps lead ", order), rightByHand(len(order)), behind, ok)
		inverted, ok := impl.CountInverted(order)
		wantInt(t, fmt.Sprint("CountInverted ", order), len(places), inverted, ok)
	}
}

// Promise 8: as many rounds as are told come home, and no fewer; the back order leads home at once.
func TestRoundsComeHome(t *testing.T) {
	row := &mixedRow{17}
	orders := append(smallOrders(6), []int{2, 3, 4, 5, 1, 7, 8, 6}, []int{2, 1, 4, 5, 3, 6, 7, 8})
	for range 300 {
		orders = append(orders, mixedOrder(row, impl.MaxBoats))
	}
	for _, order := range orders {
		right := rightByHand(len(order))
		rounds, ok := impl.RoundsHome(order)
		behind := order
		for round := 1; round < rounds; round++ {
			if slices.Equal(behind, right) {
				t.Error("RoundsHome", order, "is", rounds, "but", round, "are enough")
			}
			behind, _ = impl.FollowOrder(behind, order)
		}
		wantList(t, fmt.Sprint("RoundsHome ", order), right, behind, ok)
		back, ok := impl.BackOrder(order)
		home, fine := impl.FollowOrder(order, back)
		wantList(t, fmt.Sprint("FollowOrder and back ", order), right, home, ok && fine)
		home, fine = impl.FollowOrder(back, order)
		wantList(t, fmt.Sprint("FollowOrder behind back ", order), right, home, ok && fine)
	}
}

// Promise 8: all small orders follow one another, but for those of different length.
func TestOrdersThatFollow(t *testing.T) {
	orders := smallOrders(4)
	for _, a := range orders {
		for _, b := range orders {
			checkFollow(t, a, b)
		}
	}
	row := &mixedRow{18}
	for range 500 {
		a, b := mixedOrder(row, 5+row.next(4)), mixedOrder(row, 5+row.next(4))
		checkFollow(t, a, b)
		checkFollow(t, a, mixedOrder(row, len(a)))
		checkFollow(t, a, a)
		checkFollow(t, a, rightByHand(len(a)))
		checkFollow(t, rightByHand(len(a)), a)
	}
	// It matters which one follows.
	list, ok := impl.FollowOrder([]int{2, 1, 3}, []int{1, 3, 2})
	wantList(t, "FollowOrder", []int{3, 1, 2}, list, ok)
	list, ok = impl.FollowOrder([]int{1, 3, 2}, []int{2, 1, 3})
	wantList(t, "FollowOrder", []int{2, 3, 1}, list, ok)
}

// Promise 8: ranks are the indices in the list of all orders.
func TestAllRanks(t *testing.T) {
	for boats := 1; boats <= impl.MaxBoats; boats++ {
		orders := ordersOf(boats)
		for rank, order := range orders {
			checkRank(t, order, rank)
		}
		for _, rank := range append(oddNumbers, len(orders)-2, len(orders)-1, len(orders), len(orders)+1, 2*len(orders), 10*len(orders)) {
			isRank := 0 <= rank && rank < len(orders)
			var want []int
			if isRank {
				want = orders[rank]
			}
			list, ok := impl.OrderOfRank(boats, rank)
			wantListOr(t, fmt.Sprint("OrderOfRank ", boats, " ", rank), isRank, want, list, ok)
		}
	}
}

// The first rank, the last one and one that is too great.
func TestFirstAndLastRank(t *testing.T) {
	last := map[int]int{1: 0, 2: 1, 3: 5, 4: 23, 5: 119, 6: 719, 7: 5039, 8: 40319}
	for boats, rank := range last {
		checkRank(t, rightByHand(boats), 0)
		checkRank(t, turnedRound(rightByHand(boats)), rank)
		list, ok := impl.OrderOfRank(boats, rank+1)
		wantListOr(t, fmt.Sprint("OrderOfRank ", boats, " ", rank+1), false, nil, list, ok)
	}
	if len(last) != impl.MaxBoats {
		t.Error("some numbers of boats are left out")
	}
}

// Promise 8: counts are told by looking at all orders, for numbers that no order has, too.
func TestCountsOfOrders(t *testing.T) {
	for boats := 1; boats <= impl.MaxBoats; boats++ {
		withInverted, withCycles := map[int]int{}, map[int]int{}
		for _, order := range ordersOf(boats) {
			inverted := 0
			for i, boat := range order {
				for _, other := range order[:i] {
					if other > boat {
						inverted++
					}
				}
			}
			withInverted[inverted]++
			withCycles[len(cyclesByHand(order))]++
		}
		numbers := append(firstNumbers(39), oddNumbers...)
		for _, number := range numbers {
			n, ok := impl.CountWithInverted(boats, number)
			wantIntOr(t, fmt.Sprint("CountWithInverted ", boats, " ", number), number >= 0, withInverted[number], n, ok)
			n, ok = impl.CountWithCycles(boats, number)
			wantIntOr(t, fmt.Sprint("CountWithCycles ", boats, " ", number), number >= 0, withCycles[number], n, ok)
		}
	}
}

// Counts of none, of as many as there can be and of more.
func TestEdgesOfCounts(t *testing.T) {
	for boats := 1; boats <= impl.MaxBoats; boats++ {
		most := boats * (boats - 1) / 2
		for number, want := range map[int]int{0: 1, most: 1, most + 1: 0, most + 2: 0, math.MaxInt: 0} {
			n, ok := impl.CountWithInverted(boats, number)
			wantInt(t, fmt.Sprint("CountWithInverted ", boats, " ", number), want, n, ok)
		}
		for number, want := range map[int]int{0: 0, boats: 1, boats + 1: 0, boats + 2: 0, math.MaxInt: 0} {
			n, ok := impl.CountWithCycles(boats, number)
			wantInt(t, fmt.Sprint("CountWithCycles ", boats, " ", number), want, n, ok)
		}
	}
	n, ok := impl.CountWithInverted(impl.MaxBoats, 14)
	wantInt(t, "CountWithInverted of MaxBoats", 3836, n, ok)
	n, ok = impl.CountWithCycles(impl.MaxBoats, 1)
	wantInt(t, "CountWithCycles of MaxBoats", 5040, n, ok)
	n, ok = impl.CountWithCycles(impl.MaxBoats, 2)
	wantInt(t, "CountWithCycles of MaxBoats", 13068, n, ok)
}

// boatFacts is what is told of an order.
type boatFacts struct {
	order                            []int
	inverted, swaps, inserts, rounds int
	neighbours                       []int
	first                            [][]int
	rising                           []int
	cycles                           [][]int
	back                             []int
}

func checkFacts(t *testing.T, f boatFacts) {
	t.Helper()
	what := fmt.Sprint(f.order)
	n, ok := impl.CountInverted(f.order)
	wantInt(t, "CountInverted "+what, f.inverted, n, ok)
	n, ok = impl.FewestSwaps(f.order)
	wantInt(t, "FewestSwaps "+what, f.swaps, n, ok)
	n, ok = impl.FewestInserts(f.order)
	wantInt(t, "FewestInserts "+what, f.inserts, n, ok)
	n, ok = impl.RoundsHome(f.order)
	wantInt(t, "RoundsHome "+what, f.rounds, n, ok)
	list, ok := impl.FirstNeighbourSwaps(f.order)
	wantList(t, "FirstNeighbourSwaps "+what, f.neighbours, list, ok)
	rows, ok := impl.FirstSwaps(f.order)
	wantRowsOr(t, "FirstSwaps "+what, true, f.first, rows, ok)
	list, ok = impl.LongestRising(f.order)
	wantList(t, "LongestRising "+what, f.rising, list, ok)
	rows, ok = impl.CyclesOfOrder(f.order)
	wantRowsOr(t, "CyclesOfOrder "+what, true, f.cycles, rows, ok)
	list, ok = impl.BackOrder(f.order)
	wantList(t, "BackOrder "+what, f.back, list, ok)
}

// Orders of one boat, of two, the right one and the one that is turned round, up to MaxBoats.
func TestEdgesOfOrders(t *testing.T) {
	checkFacts(t, boatFacts{[]int{1}, 0, 0, 0, 1, nil, nil, []int{0}, [][]int{{0}}, []int{1}})
	checkFacts(t, boatFacts{[]int{1, 2}, 0, 0, 0, 1, nil, nil, []int{0, 1}, [][]int{{0}, {1}}, []int{1, 2}})
	checkFacts(t, boatFacts{[]int{2, 1}, 1, 1, 1, 2, []int{0}, [][]int{{0, 1}}, []int{0}, [][]int{{0, 1}}, []int{2, 1}})
	checkFacts(t, boatFacts{[]int{3, 2, 1}, 3, 1, 2, 2, []int{0, 1, 0}, [][]int{{0, 2}}, []int{0}, [][]int{{0, 2}, {1}}, []int{3, 2, 1}})
	for boats := 1; boats <= impl.MaxBoats; boats++ {
		right := rightByHand(boats)
		checkFacts(t, boatFacts{right, 0, 0, 0, 1, nil, nil, firstNumbers(boats), cyclesByHand(right), right})
		turned := turnedRound(right)
		var neighbours []int
		var first [][]int
		for place := range boats {
			for back := place - 1; back >= 0; back-- {
				neighbours = append(neighbours, back)
			}
			if other := boats - 1 - place; place < other {
				first = append(first, []int{place, other})
			}
		}
		rounds := min(boats, 2)
		checkFacts(t, boatFacts{turned, boats * (boats - 1) / 2, boats / 2, boats - 1, rounds, neighbours, first, []int{0}, cyclesByHand(turned), turned})
	}
}

// Orders with one cycle, with as many as boats and with several.
func TestCyclesOfOrders(t *testing.T) {
	cases := []struct {
		order  []int
		cycles [][]int
		rounds int
	}{
		{[]int{2, 3, 4, 5, 6, 7, 8, 1}, [][]int{{0, 1, 2, 3, 4, 5, 6, 7}}, 8},
		{[]int{8, 1, 2, 3, 4, 5, 6, 7}, [][]int{{0, 7, 6, 5, 4, 3, 2, 1}}, 8},
		{[]int{1, 2, 3, 4, 5, 6, 7, 8}, [][]int{{0}, {1}, {2}, {3}, {4}, {5}, {6}, {7}}, 1},
		{[]int{8, 7, 6, 5, 4, 3, 2, 1}, [][]int{{0, 7}, {1, 6}, {2, 5}, {3, 4}}, 2},
		{[]int{4, 3, 5, 6, 2, 7, 8, 1}, [][]int{{0, 3, 5, 6, 7}, {1, 2, 4}}, 15},
		{[]int{2, 1, 4, 5, 3, 6, 7, 8}, [][]int{{0, 1}, {2, 3, 4}, {5}, {6}, {7}}, 6},
		{[]int{3, 4, 5, 2, 6, 1, 8, 7}, [][]int{{0, 2, 4, 5}, {1, 3}, {6, 7}}, 4},
		{[]int{7, 5, 3, 8, 6, 2, 1, 4}, [][]int{{0, 6}, {1, 4, 5}, {2}, {3, 7}}, 6},
		{[]int{1, 3, 2}, [][]int{{0}, {1, 2}}, 2},
	}
	for _, c := range cases {
		what := fmt.Sprint(c.order)
		rows, ok := impl.CyclesOfOrder(c.order)
		wantRowsOr(t, "CyclesOfOrder "+what, true, c.cycles, rows, ok)
		n, ok := impl.RoundsHome(c.order)
		wantInt(t, "RoundsHome "+what, c.rounds, n, ok)
		n, ok = impl.FewestSwaps(c.order)
		wantInt(t, "FewestSwaps "+what, len(c.order)-len(c.cycles), n, ok)
	}
}

// Some orders are their own back orders, others are not.
func TestOwnBackOrders(t *testing.T) {
	for _, order := range [][]int{{1}, {2, 1}, {3, 2, 1}, {2, 1, 4, 3}, {4, 3, 2, 1}, {1, 2, 5, 4, 3, 8, 7, 6}, {8, 7, 6, 5, 4, 3, 2, 1}} {
		back, ok := impl.BackOrder(order)
		wantList(t, fmt.Sprint("BackOrder ", order), order, back, ok)
		home, ok := impl.FollowOrder(order, order)
		wantList(t, fmt.Sprint("FollowOrder twice ", order), rightByHand(len(order)), home, ok)
	}
	back, ok := impl.BackOrder([]int{5, 1, 4, 8, 2, 7, 3, 6})
	wantList(t, "BackOrder", []int{2, 5, 7, 3, 1, 8, 6, 4}, back, ok)
}

// Of several longest rising lists the first one is told.
func TestSeveralRisingLists(t *testing.T) {
	cases := []struct{ order, places []int }{
		{[]int{2, 1, 3}, []int{0, 2}}, {[]int{2, 3, 1}, []int{0, 1}}, {[]int{1, 3, 2}, []int{0, 1}}, {[]int{2, 1, 4, 3}, []int{0, 2}}, {[]int{3, 4, 1, 2}, []int{0, 1}}, {[]int{4, 1, 3, 2}, []int{1, 2}},
		{[]int{4, 3, 2, 1, 8, 7, 6, 5}, []int{0, 4}}, {[]int{5, 6, 7, 8, 1, 2, 3, 4}, []int{0, 1, 2, 3}}, {[]int{5, 1, 6, 2, 7, 3, 8, 4}, []int{0, 2, 4, 6}}, {[]int{8, 1, 5, 6, 2, 3, 7, 4}, []int{1, 2, 3, 6}}, {[]int{3, 8, 1, 4, 2, 6, 7, 5}, []int{0, 3, 5, 6}},
	}
	for _, c := range cases {
		list, ok := impl.LongestRising(c.order)
		wantList(t, fmt.Sprint("LongestRising ", c.order), c.places, list, ok)
		n, ok := impl.FewestInserts(c.order)
		wantInt(t, fmt.Sprint("FewestInserts ", c.order), len(c.order)-len(c.places), n, ok)
	}
}

// Of several shortest lists of swaps the first one is told.
func TestSeveralListsOfSwaps(t *testing.T) {
	cases := []struct {
		order      []int
		first      [][]int
		neighbours []int
	}{
		{[]int{2, 3, 1}, [][]int{{0, 1}, {0, 2}}, []int{1, 0}},
		{[]int{2, 1, 4, 3}, [][]int{{0, 1}, {2, 3}}, []int{0, 2}},
		{[]int{3, 4, 1, 2}, [][]int{{0, 2}, {1, 3}}, []int{1, 0, 2, 1}},
		{[]int{2, 3, 4, 1}, [][]int{{0, 1}, {0, 2}, {0, 3}}, []int{2, 1, 0}},
		{[]int{4, 1, 2, 3}, [][]int{{0, 1}, {1, 2}, {2, 3}}, []int{0, 1, 2}},
		{[]int{3, 4, 2, 1}, [][]int{{0, 1}, {0, 3}, {1, 2}}, []int{1, 0, 2, 1, 0}},
		{[]int{1, 3, 2, 5, 4}, [][]int{{1, 2}, {3, 4}}, []int{1, 3}},
	}
	for _, c := range cases {
		rows, ok := impl.FirstSwaps(c.order)
		wantRowsOr(t, fmt.Sprint("FirstSwaps ", c.order), true, c.first, rows, ok)
		list, ok := impl.FirstNeighbourSwaps(c.order)
		wantList(t, fmt.Sprint("FirstNeighbourSwaps ", c.order), c.neighbours, list, ok)
	}
}

// Swaps of the first and the last place, the greater one first, boats that are put in where they were, in front and at the end, and turns of one boat and of all.
func TestEdgesOfMoves(t *testing.T) {
	order := []int{3, 1, 4, 2, 5}
	for what, call := range map[string]struct {
		got  func() ([]int, bool)
		want []int
	}{
		"a swap of the first and the last place":      {func() ([]int, bool) { return impl.SwapBoats(order, 0, 4) }, []int{5, 1, 4, 2, 3}},
		"a swap of the last and the first place":      {func() ([]int, bool) { return impl.SwapBoats(order, 4, 0) }, []int{5, 1, 4, 2, 3}},
		"a swap of neighbours, the greater one first": {func() ([]int, bool) { return impl.SwapBoats(order, 2, 1) }, []int{3, 4, 1, 2, 5}},
		"a swap of a place with itself":               {func() ([]int, bool) { return impl.SwapBoats(order, 2, 2) }, nil},
		"a boat where it was":                         {func() ([]int, bool) { return impl.MoveBoat(order, 2, 2) }, order},
		"the first boat where it was":                 {func() ([]int, bool) { return impl.MoveBoat(order, 0, 0) }, order},
		"the last boat where it was":                  {func() ([]int, bool) { return impl.MoveBoat(order, 4, 4) }, order},
		"a boat in front":                             {func() ([]int, bool) { return impl.MoveBoat(order, 2, 0) }, []int{4, 3, 1, 2, 5}},
		"the last boat in front":                      {func() ([]int, bool) { return impl.MoveBoat(order, 4, 0) }, []int{5, 3, 1, 4, 2}},
		"a boat at the end":                           {func() ([]int, bool) { return impl.MoveBoat(order, 1, 4) }, []int{3, 4, 2, 5, 1}},
		"the first boat at the end":                   {func() ([]int, bool) { return impl.MoveBoat(order, 0, 4) }, []int{1, 4, 2, 5, 3}},
		"a boat farther on":                           {func() ([]int, bool) { return impl.MoveBoat(order, 0, 2) }, []int{1, 4, 3, 2, 5}},
		"a boat farther back":                         {func() ([]int, bool) { return impl.MoveBoat(order, 3, 1) }, []int{3, 2, 1, 4, 5}},
		"one boat turned":                             {func() ([]int, bool) { return impl.TurnFront(order, 1) }, order},
		"two boats turned":                            {func() ([]int, bool) { return impl.TurnFront(order, 2) }, []int{1, 3, 4, 2, 5}},
		"all boats but one turned":                    {func() ([]int, bool) { return impl.TurnFront(order, 4) }, []int{2, 4, 1, 3, 5}},
		"all boats turned":                            {func() ([]int, bool) { return impl.TurnFront(order, 5) }, []int{5, 2, 4, 1, 3}},
		"one boat more turned than there are":         {func() ([]int, bool) { return impl.TurnFront(order, 6) }, nil},
		"no boat turned":                              {func() ([]int, bool) { return impl.TurnFront(order, 0) }, nil},
	} {
		list, ok := call.got()
		wantListOr(t, what, call.want != nil, call.want, list, ok)
	}
}

// Turns are told for 7 boats, all orders of them, but not for 8.
func TestFewestTurnsOfSevenBoats(t *testing.T) {
	turns := searchOfBoats(7, turnsByHand)
	most := 0
	for i, order := range ordersOf(7) {
		most = max(most, turns.away[rowOf(order)])
		if i%13 == 0 || turns.away[rowOf(order)] >= 8 {
			n, ok := impl.FewestTurns(order)
			wantInt(t, fmt.Sprint("FewestTurns ", order), turns.away[rowOf(order)], n, ok)
		}
	}
	if most != 8 {
		t.Error("turns are told wrongly:", most)
	}
	for _, order := range [][]int{rightByHand(8), turnedRound(rightByHand(8)), {2, 1, 3, 4, 5, 6, 7, 8}} {
		n, ok := impl.FewestTurns(order)
		wantIntOr(t, fmt.Sprint("FewestTurns ", order), false, 0, n, ok)
	}
}

// isOrderByHand sorts a list.
func isOrderByHand(list []int) bool {
	sorted := slices.Clone(list)
	slices.Sort(sorted)
	return 1 <= len(list) && len(list) <= impl.MaxBoats && slices.Equal(sorted, rightByHand(len(list)))
}

func TestListsThatAreOrders(t *testing.T) {
	for _, list := range append(listsOf(5, 0, 1, 2, 3, 4, 5), listsOf(4, -1, 1, 2, 3, 4, 9)...) {
		if impl.IsOrder(list) != isOrderByHand(list) {
			t.Error("IsOrder of", list, "is not", isOrderByHand(list))
		}
	}
	for boats := range 30 {
		for _, list := range [][]int{rightByHand(boats), turnedRound(rightByHand(boats)), firstNumbers(boats), slices.Repeat([]int{1}, boats)} {
			if impl.IsOrder(list) != isOrderByHand(list) {
				t.Error("IsOrder of", list, "is not", isOrderByHand(list))
			}
		}
	}
}

// noOrders returns lists that are no orders.
func noOrders() [][]int {
	lists := [][]int{
		nil, {}, rightByHand(impl.MaxBoats + 1), turnedRound(rightByHand(impl.MaxBoats + 1)), rightByHand(100000),
		append(rightByHand(impl.MaxBoats), impl.MaxBoats), append(rightByHand(impl.MaxBoats), 0), append(rightByHand(3), 3), append(rightByHand(3), 1),
	}
	for _, boats := range []int{1, 2, 3, 7, impl.MaxBoats} {
		for place := range boats {
			for _, n := range []int{math.MinInt, -8, -2, -1, 0, boats + 1, boats + 2, 9, 256 + place, 1<<32 + 1 + place, math.MaxInt} {
				list := rightByHand(boats)
				list[place] = n
				lists = append(lists, list)
			}
			twice := turnedRound(rightByHand(boats))
			twice[place] = twice[(place+1)%boats]
			if boats > 1 {
				lists = append(lists, twice)
			}
		}
	}
	return lists
}

// boatNumbers are what calls are given beside an order, each in its bounds unless a test sets it otherwise.
type boatNumbers struct {
	a, b, from, to, many            int
	boats, inverted, cycles, ofRank int
	other                           []int
}

func goodBoatNumbers() boatNumbers {
	return boatNumbers{0, 2, 2, 0, 3, 3, 1, 2, 4, []int{2, 3, 1}}
}

// boatCalls returns all calls of chapter 8, told by the results that should be zero if it fails.
func boatCalls(order []int, n boatNumbers) map[string]string {
	told := map[string]string{}
	tell := func(name string, isZero, ok bool, result any) {
		if told[name] = fmt.Sprint(result, " ", ok); isZero {
			told[name] = fmt.Sprint(0, ok)
		}
	}
	number := func(name string, k int, ok bool) { tell(name, k == 0, ok, k) }
	list := func(name string, l []int, ok bool) { tell(name, len(l) == 0, ok, l) }
	rows := func(name string, r [][]int, ok bool) { tell(name, len(r) == 0, ok, r) }
	for name, call := range map[string]func(order []int) (int, bool){
		"CountInverted": impl.CountInverted, "FewestSwaps": impl.FewestSwaps, "FewestInserts": impl.FewestInserts, "FewestTurns": impl.FewestTurns, "RoundsHome": impl.RoundsHome, "RankOfOrder": impl.RankOfOrder,
	} {
		k, ok := call(order)
		number(name, k, ok)
	}
	for name, call := range map[string]func(order []int) ([]int, bool){
		"FirstNeighbourSwaps": impl.FirstNeighbourSwaps, "LongestRising": impl.LongestRising, "BackOrder": impl.BackOrder,
	} {
		l, ok := call(order)
		list(name, l, ok)
	}
	r, ok := impl.FirstSwaps(order)
	rows("FirstSwaps", r, ok)
	r, ok = impl.CyclesOfOrder(order)
	rows("CyclesOfOrder", r, ok)
	l, ok := impl.SwapBoats(order, n.a, n.b)
	list("SwapBoats", l, ok)
	l, ok = impl.MoveBoat(order, n.from, n.to)
	list("MoveBoat", l, ok)
	l, ok = impl.TurnFront(order, n.many)
	list("TurnFront", l, ok)
	l, ok = impl.FollowOrder(order, n.other)
	list("FollowOrder", l, ok)
	l, ok = impl.FollowOrder(n.other, order)
	list("FollowOrder behind", l, ok)
	k, ok := impl.CountWithInverted(n.boats, n.inverted)
	number("CountWithInverted", k, ok)
	k, ok = impl.CountWithCycles(n.boats, n.cycles)
	number("CountWithCycles", k, ok)
	l, ok = impl.OrderOfRank(n.boats, n.ofRank)
	list("OrderOfRank", l, ok)
	return told
}

// Promise 11: lists that are no orders make all calls with them fail with zero values, and no others.
func TestListsThatAreNoOrders(t *testing.T) {
	good := boatCalls(exampleOrder(), goodBoatNumbers())
	requireFailures(t, "a good order", good)
	var names []string
	for name := range good {
		if name != "CountWithInverted" && name != "CountWithCycles" && name != "OrderOfRank" {
			names = append(names, name)
		}
	}
	for _, list := range noOrders() {
		what := fmt.Sprintf("%.60s", fmt.Sprint(list))
		if impl.IsOrder(list) {
			t.Error("IsOrder", what)
		}
		n := goodBoatNumbers()
		requireFailures(t, what, boatCalls(list, n), names...)
		// Numbers are no reason to fail that fit a list of as many.
		n = boatNumbers{0, 1, 1, 0, 1, 3, 1, 2, 4, rightByHand(len(list))}
		requireFailures(t, what, boatCalls(list, n), names...)
		n.other = list
		requireFailures(t, what, boatCalls(list, n), names...)
		requireFailures(t, "other "+what, boatCalls(exampleOrder(), n), "FollowOrder", "FollowOrder behind")
	}
}

// Promise 11: numbers out of their bounds make the calls with them fail with zero values, and no others.
func TestBoatNumbersOutOfBounds(t *testing.T) {
	order := turnedRound(rightByHand(impl.MaxBoats))
	counts := []string{"CountWithInverted", "CountWithCycles", "OrderOfRank"}
	kinds := []struct {
		name        string
		least, most int
		set         func(n *boatNumbers, to int)
		failing     []string
	}{
		{"a place to swap", 0, 7, func(n *boatNumbers, to int) { n.a, n.b = to, 3 }, []string{"SwapBoats"}},
		{"another place to swap", 0, 7, func(n *boatNumbers, to int) { n.a, n.b = 3, to }, []string{"SwapBoats"}},
		{"two places to swap", 0, -1, func(n *boatNumbers, to int) { n.a, n.b = to, to }, []string{"SwapBoats"}},
		{"a place to move from", 0, 7, func(n *boatNumbers, to int) { n.from, n.to = to, 3 }, []string{"MoveBoat"}},
		{"a place to move to", 0, 7, func(n *boatNumbers, to int) { n.from, n.to = 3, to }, []string{"MoveBoat"}},
		{"two places to move", 0, 7, func(n *boatNumbers, to int) { n.from, n.to = to, to }, []string{"MoveBoat"}},
		{"boats to turn", 1, 8, func(n *boatNumbers, to int) { n.many = to }, []string{"TurnFront"}},
		{"boats", 1, 8, func(n *boatNumbers, to int) { n.boats = to }, counts},
		{"inverted boats", 0, math.MaxInt, func(n *boatNumbers, to int) { n.inverted = to }, counts[:1]},
		{"cycles", 0, math.MaxInt, func(n *boatNumbers, to int) { n.cycles = to }, counts[1:2]},
		{"a rank", 0, 40319, func(n *boatNumbers, to int) { n.ofRank = to }, counts[2:]},
	}
	for _, kind := range kinds {
		for _, to := range append(oddNumbers, -9, -8, -7, -3, 4, 5, 6, 7, 8, 9, 10, 16, 40318, 40319, 40320, 40321, 1<<32+1) {
			n := boatNumbers{0, 7, 0, 7, 8, 8, 28, 8, 0, order}
			kind.set(&n, to)
			failing := []string{"FewestTurns"}
			if to < kind.least || to > kind.most {
				failing = append(failing, kind.failing...)
			}
			requireFailures(t, fmt.Sprint(kind.name, " ", to), boatCalls(order, n), failing...)
		}
	}
	// A place in a longer order is none in a shorter one.
	n := boatNumbers{0, 3, 3, 0, 4, 3, 1, 2, 6, []int{2, 3, 1, 4}}
	requireFailures(t, "numbers for a longer order", boatCalls(exampleOrder(), n), "SwapBoats", "MoveBoat", "TurnFront", "FollowOrder", "FollowOrder behind", "OrderOfRank")
}

// Promise 11: no call panics, whatever is put together, and no call changes a later one, however its boats are sent.
func TestBoatCallsAreTotal(t *testing.T) {
	lists := append(noOrders(), []int{1}, []int{2, 1}, exampleOrder(), rightByHand(7), turnedRound(rightByHand(impl.MaxBoats)))
	for i, x := range oddNumbers {
		for k, y := range oddNumbers {
			n := boatNumbers{x, y, y, x, x, x, y, y, y, lists[(5*i+k)%len(lists)]}
			for _, order := range [][]int{lists[i%len(lists)], lists[(i+7*k)%len(lists)], exampleOrder(), {4, 3, 5, 6, 2, 7, 8, 1}, {x, y}} {
				first, again := boatCalls(order, n), boatCalls(order, n)
				for name, told := range first {
					if told != again[name] {
						t.Errorf("%s %.60s %v: %s, then %s", name, fmt.Sprint(order), n, told, again[name])
					}
				}
			}
		}
	}
}

// Promise 11: lists stay as they are, and so does the room behind them.
func TestBoatArgumentsAreNotChanged(t *testing.T) {
	lists := [][]int{nil, {1}, {2, 1}, {3, 1, 2}, {2, 3, 1}, {1, 2, 3}, {3, 2, 1}, {4, 3, 5, 6, 2, 7, 8, 1}, {8, 7, 6, 5, 4, 3, 2, 1}, {1, 1}, {0, 1}, {1, 2, 3, 4, 5, 6, 7, 8, 9}, {math.MinInt, math.MaxInt}}
	for _, order := range lists {
		for _, other := range lists {
			for _, n := range []boatNumbers{goodBoatNumbers(), {0, 1, 1, 1, 1, 3, 1, 2, 4, nil}, {7, 0, 0, 7, 8, 8, 1, 2, 4, nil}} {
				given := withRoom(order)
				n.other = withRoom(other)
				told := boatCalls(given, n)
				if !isUntouched(given, order) || !isUntouched(n.other, other) {
					t.Error("a call changes", order, other)
				}
				n.other = slices.Clip(slices.Clone(other))
				for name, want := range boatCalls(slices.Clip(slices.Clone(order)), n) {
					if told[name] != want {
						t.Errorf("%s %v %v with room: %s, want %s", name, order, other, told[name], want)
					}
				}
			}
		}
	}
}

// Promise 11: lists that are returned are new memory, even if they have the numbers of the argument, and no two of one result share any.
func TestBoatResultsAreNew(t *testing.T) {
	order, right, own := exampleOrder(), rightByHand(3), []int{3, 2, 1}
	wantNewLists(t, map[string]func() ([]int, bool){
		"FirstNeighbourSwaps":        func() ([]int, bool) { return impl.FirstNeighbourSwaps(order) },
		"LongestRising":              func() ([]int, bool) { return impl.LongestRising(order) },
		"SwapBoats":                  func() ([]int, bool) { return impl.SwapBoats(order, 0, 1) },
		"MoveBoat":                   func() ([]int, bool) { return impl.MoveBoat(order, 0, 1) },
		"MoveBoat where it was":      func() ([]int, bool) { return impl.MoveBoat(order, 2, 2) },
		"TurnFront":                  func() ([]int, bool) { return impl.TurnFront(order, 2) },
		"TurnFront 1":                func() ([]int, bool) { return impl.TurnFront(order, 1) },
		"BackOrder":                  func() ([]int, bool) { return impl.BackOrder(order) },
		"BackOrder of its own":       func() ([]int, bool) { return impl.BackOrder(own) },
		"FollowOrder":                func() ([]int, bool) { return impl.FollowOrder(order, own) },
		"FollowOrder behind right":   func() ([]int, bool) { return impl.FollowOrder(right, order) },
		"FollowOrder before right":   func() ([]int, bool) { return impl.FollowOrder(order, right) },
		"OrderOfRank":                func() ([]int, bool) { return impl.OrderOfRank(3, 4) },
		"OrderOfRank, the first one": func() ([]int, bool) { return impl.OrderOfRank(3, 0) },
	})
	several := []int{4, 3, 5, 6, 2, 7, 8, 1}
	wantNewRows(t, map[string]func() ([][]int, bool){
		"FirstSwaps":             func() ([][]int, bool) { return impl.FirstSwaps(several) },
		"CyclesOfOrder":          func() ([][]int, bool) { return impl.CyclesOfOrder(several) },
		"CyclesOfOrder of right": func() ([][]int, bool) { return impl.CyclesOfOrder(right) },
	})
	for list, want := range map[*[]int][]int{&order: {3, 1, 2}, &right: {1, 2, 3}, &own: {3, 2, 1}, &several: {4, 3, 5, 6, 2, 7, 8, 1}} {
		if !slices.Equal(*list, want) {
			t.Error("what is written to a result changes an argument:", *list, want)
		}
	}
}

// Promise 11: one order may be told by several calls at once, each with senders of its own.
func TestBoatCallsAtOnce(t *testing.T) {
	order := []int{4, 3, 5, 6, 2, 7, 8, 1}
	n := boatNumbers{0, 7, 0, 7, 8, 8, 14, 2, 40319, order}
	want := boatCalls(order, n)
	var calls sync.WaitGroup
	for range 8 {
		calls.Go(func() {
			for range 20 {
				for name, told := range boatCalls(order, n) {
					if told != want[name] {
						t.Errorf("%s at once: %s, want %s", name, told, want[name])
					}
				}
			}
		})
	}
	calls.Wait()
}

// Promise 11: no goroutine that sends boats is left behind calls.
func TestNoSenderIsLeft(t *testing.T) {
	before := runtime.NumGoroutine()
	for range 200 {
		boatCalls([]int{4, 3, 5, 6, 2, 7, 8, 1}, goodBoatNumbers())
		boatCalls(rightByHand(3), goodBoatNumbers())
	}
	// One that is done may need a moment to be gone.
	for i := 0; runtime.NumGoroutine() > before && i < 100; i++ {
		time.Sleep(10 * time.Millisecond)
	}
	if left := runtime.NumGoroutine(); left > before {
		t.Error(left-before, "goroutines are left")
	}
}

// Promise 11: behind a call no sender looks at the order any more: one that did would look for places that are none.
func TestNoSenderLooksBehindCall(t *testing.T) {
	for range 2000 {
		for _, order := range [][]int{{1}, {2, 1}, exampleOrder(), {4, 3, 5, 6, 2, 7, 8, 1}} {
			want := cyclesByHand(order)
			rows, ok := impl.CyclesOfOrder(order)
			for place := range order {
				order[place] = 1000
			}
			wantRowsOr(t, "CyclesOfOrder", true, want, rows, ok)
		}
	}
}
