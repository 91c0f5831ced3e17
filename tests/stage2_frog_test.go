package tests

import (
	"fmt"
	"math"
	"slices"
	"strings"
	"testing"
	"unsafe"

	"loop.example/g01352/impl"
)

// hopByHand returns the pond behind a move, as the signs around the frog tell it, and whether the move is a leap.
func hopByHand(pond string, from int) (behind string, leap, ok bool) {
	if from < 0 || from >= len(pond) {
		return "", false, false
	}
	before, upTo, on, after := pond[:from], pond[:from+1], pond[from:], pond[from+1:]
	switch {
	case strings.HasPrefix(on, "r."):
		return before + ".r" + on[2:], false, true
	case strings.HasPrefix(on, "rl."):
		return before + ".lr" + on[3:], true, true
	case strings.HasSuffix(upTo, ".l"):
		return upTo[:from-1] + "l." + after, false, true
	case strings.HasSuffix(upTo, ".rl"):
		return upTo[:from-2] + "lr." + after, true, true
	}
	return "", false, false
}

// frogListsByHand returns all lists of moves from a pond, in lexicographic order, by the ponds to which they lead.
func frogListsByHand(pond string) map[string][][]int {
	lists := map[string][][]int{}
	var walk func(pond string, moves []int)
	walk = func(pond string, moves []int) {
		lists[pond] = append(lists[pond], moves)
		for from := range len(pond) {
			if behind, _, ok := hopByHand(pond, from); ok {
				walk(behind, append(slices.Clone(moves), from))
			}
		}
	}
	walk(pond, nil)
	return lists
}

func movesByHand(pond string) []int {
	var moves []int
	for from := range len(pond) {
		if _, _, ok := hopByHand(pond, from); ok {
			moves = append(moves, from)
		}
	}
	return moves
}

func exchangedByHand(pond string) string {
	return strings.Repeat("l", strings.Count(pond, "l")) + strings.Repeat(".", strings.Count(pond, ".")) + strings.Repeat("r", strings.Count(pond, "r"))
}

func turnedByHand(pond string) string {
	turned := ""
	for _, sign := range pond {
		turned = strings.NewReplacer("r", "l", "l", "r").Replace(string(sign)) + turned
	}
	return turned
}

// winnersByHand returns all moves behind which the player of these frogs wins, by going over all games.
func winnersByHand(pond string, right bool) []int {
	sign := byte('l')
	if right {
		sign = 'r'
	}
	var winners []int
	for from := range len(pond) {
		if behind, _, ok := hopByHand(pond, from); ok && pond[from] == sign && len(winnersByHand(behind, !right)) == 0 {
			winners = append(winners, from)
		}
	}
	return winners
}

// pondsOf returns all ponds of so many stones.
func pondsOf(stones int) []string {
	ponds := []string{""}
	for range stones {
		var longer []string
		for _, p := range ponds {
			longer = append(longer, p+".", p+"l", p+"r")
		}
		ponds = longer
	}
	return ponds
}

// smallPonds returns all ponds of 1 up to most stones.
func smallPonds(most int) []string {
	var all []string
	for stones := 1; stones <= most; stones++ {
		all = append(all, pondsOf(stones)...)
	}
	return all
}

// somePonds returns ponds of MaxPond stones, all over the list of all of them.
func somePonds() []string {
	ponds := []string{"rrr...lll", "rrrr.llll", "rrrr.....", ".....llll", "r.......l", "rlrl.rlrl", ".rl.rl.rl", "lll...rrr"}
	for i, p := range pondsOf(impl.MaxPond) {
		if i%331 == 7 {
			ponds = append(ponds, p)
		}
	}
	return ponds
}

func TestFrogExample(t *testing.T) {
	moves, ok := impl.FrogMoves("r.l")
	wantList(t, "FrogMoves", []int{0, 2}, moves, ok)
	goal, ok := impl.ExchangeOf("rr.ll")
	wantText(t, "ExchangeOf", "ll.rr", goal, ok)
	fewest, ok := impl.FewestFrogMoves("rr.ll", goal)
	wantInt(t, "FewestFrogMoves", 8, fewest, ok)
	first, ok := impl.FirstFrogMoves("rr.ll", goal)
	wantList(t, "FirstFrogMoves", []int{1, 3, 4, 2, 0, 1, 3, 2}, first, ok)
	leaps, ok := impl.LeapsIn("rr.ll", first)
	wantInt(t, "LeapsIn", 4, leaps, ok)
	ways, ok := impl.CountFrogWays("rr.ll", goal)
	wantInt(t, "CountFrogWays", 2, ways, ok)
	stuck, ok := impl.ShortestStuck("rr.ll")
	wantList(t, "ShortestStuck", []int{1, 0}, stuck, ok)
	end, ok := impl.PlayFrogs("rr.ll", stuck)
	wantText(t, "PlayFrogs", ".rrll", end, ok)
	wins, ok := impl.DoesRightWin("r.l", true)
	wantBool(t, "DoesRightWin first", true, wins, ok)
	wins, ok = impl.DoesRightWin("r.l", false)
	wantBool(t, "DoesRightWin", false, wins, ok)
	turned, ok := impl.TurnPond("rr.l")
	wantText(t, "TurnPond", "r.ll", turned, ok)
}

// Promise 2: in all small ponds everything agrees with the lists of moves told one by one.
func TestListsOfSmallPonds(t *testing.T) {
	for _, pond := range smallPonds(6) {
		lists := frogListsByHand(pond)
		checkMoves(t, pond)
		checkPlays(t, pond, lists)
		checkEnds(t, pond, lists)
		for goal := range lists {
			checkGoal(t, pond, goal, lists[goal])
		}
	}
}

func checkMoves(t *testing.T, pond string) {
	t.Helper()
	want := movesByHand(pond)
	moves, ok := impl.FrogMoves(pond)
	wantList(t, "FrogMoves "+pond, want, moves, ok)
	stuck, ok := impl.IsStuck(pond)
	wantBool(t, "IsStuck "+pond, len(want) == 0, stuck, ok)
	for from := -3; from <= len(pond)+3; from++ {
		behind, _, can := hopByHand(pond, from)
		got, ok := impl.MoveFrog(pond, from)
		if got != behind || ok != can {
			t.Errorf("MoveFrog %s %d: %q %v, want %q %v", pond, from, got, ok, behind, can)
		}
	}
	goal, ok := impl.ExchangeOf(pond)
	wantText(t, "ExchangeOf "+pond, exchangedByHand(pond), goal, ok)
	turned, ok := impl.TurnPond(pond)
	wantText(t, "TurnPond "+pond, turnedByHand(pond), turned, ok)
}

func checkPlays(t *testing.T, pond string, lists map[string][][]int) {
	t.Helper()
	for goal, all := range lists {
		for _, moves := range all {
			what := fmt.Sprint(pond, moves)
			end, ok := impl.PlayFrogs(pond, moves)
			wantText(t, "PlayFrogs "+what, goal, end, ok)
			leaps, ok := impl.LeapsIn(pond, moves)
			wantInt(t, "LeapsIn "+what, leapsByHand(pond, moves), leaps, ok)
		}
	}
}

func leapsByHand(pond string, moves []int) int {
	leaps := 0
	for _, from := range moves {
		behind, leap, _ := hopByHand(pond, from)
		if leap {
			leaps++
		}
		pond = behind
	}
	return leaps
}

func checkEnds(t *testing.T, pond string, lists map[string][][]int) {
	t.Helper()
	var longest, shortest []int
	var ends []string
	for goal, all := range lists {
		if l := all[0]; len(l) > len(longest) || len(l) == len(longest) && slices.Compare(l, longest) < 0 {
			longest = l
		}
		if len(movesByHand(goal)) > 0 {
			continue
		}
		if l := all[0]; len(ends) == 0 || len(l) < len(shortest) || len(l) == len(shortest) && slices.Compare(l, shortest) < 0 {
			shortest = l
		}
		ends = append(ends, goal)
	}
	slices.Sort(ends)
	reached, ok := impl.PondsReached(pond)
	wantInt(t, "PondsReached "+pond, len(lists), reached, ok)
	play, ok := impl.LongestFrogPlay(pond)
	wantList(t, "LongestFrogPlay "+pond, longest, play, ok)
	play, ok = impl.ShortestStuck(pond)
	wantList(t, "ShortestStuck "+pond, shortest, play, ok)
	stuck, ok := impl.StuckPonds(pond)
	if !slices.Equal(stuck, ends) || !ok {
		t.Errorf("StuckPonds %s: %v %v, want %v", pond, stuck, ok, ends)
	}
	can, ok := impl.CanExchange(pond)
	wantBool(t, "CanExchange "+pond, len(lists[exchangedByHand(pond)]) > 0, can, ok)
}

// checkGoal compares with all lists of moves that lead to a goal, in lexicographic order, perhaps none.
func checkGoal(t *testing.T, pond, goal string, all [][]int) {
	t.Helper()
	what := pond + " to " + goal
	var best []int
	for i, moves := range all {
		if i == 0 || len(moves) < len(best) {
			best = moves
		}
	}
	fewest, ok := impl.FewestFrogMoves(pond, goal)
	wantIntOr(t, "FewestFrogMoves "+what, len(all) > 0, len(best), fewest, ok)
	first, ok := impl.FirstFrogMoves(pond, goal)
	wantListOr(t, "FirstFrogMoves "+what, len(all) > 0, best, first, ok)
	ways, ok := impl.CountFrogWays(pond, goal)
	wantIntOr(t, "CountFrogWays "+what, len(all) > 0, len(all), ways, ok)
}

// Promise 2: goals to which no moves lead fail, whatever their frogs, and no others.
func TestAllGoalsOfSmallPonds(t *testing.T) {
	for stones := 1; stones <= 4; stones++ {
		for _, pond := range pondsOf(stones) {
			lists := frogListsByHand(pond)
			for _, goal := range pondsOf(stones) {
				checkGoal(t, pond, goal, lists[goal])
			}
		}
	}
}

// Promise 2: who wins has a winning move, and who loses has none.
func TestGamesOfSmallPonds(t *testing.T) {
	for _, pond := range smallPonds(6) {
		for _, right := range []bool{true, false} {
			checkGame(t, pond, right, winnersByHand(pond, right))
		}
	}
}

// checkGame compares with all moves behind which the player whose turn it is wins.
func checkGame(t *testing.T, pond string, right bool, winners []int) {
	t.Helper()
	what := fmt.Sprint(pond, " ", right)
	wins, ok := impl.DoesRightWin(pond, right)
	wantBool(t, "DoesRightWin "+what, (len(winners) > 0) == right, wins, ok)
	first := 0
	if len(winners) > 0 {
		first = winners[0]
	}
	move, ok := impl.WinningMove(pond, right)
	wantIntOr(t, "WinningMove "+what, len(winners) > 0, first, move, ok)
}

// handPlays notes for ponds what all lists of moves from there come to.
type handPlays struct {
	ends              map[string]bool
	longest, shortest []int
	ways              map[string]int
}

// playsByHand joins what is behind each move, noted once for each pond.
func playsByHand(pond string, noted map[string]*handPlays) *handPlays {
	if p := noted[pond]; p != nil {
		return p
	}
	p := &handPlays{ends: map[string]bool{}, ways: map[string]int{pond: 1}}
	noted[pond] = p
	moves := movesByHand(pond)
	if len(moves) == 0 {
		p.ends[pond] = true
	}
	for i, from := range moves {
		behind, _, _ := hopByHand(pond, from)
		next := playsByHand(behind, noted)
		for end := range next.ends {
			p.ends[end] = true
		}
		for goal, n := range next.ways {
			p.ways[goal] += n
		}
		if i == 0 || len(next.longest)+1 > len(p.longest) {
			p.longest = append([]int{from}, next.longest...)
		}
		if i == 0 || len(next.shortest)+1 < len(p.shortest) {
			p.shortest = append([]int{from}, next.shortest...)
		}
	}
	return p
}

// Promise 2: ponds of MaxPond stones.
func TestLongestPonds(t *testing.T) {
	for _, pond := range somePonds() {
		if !impl.IsPond(pond) {
			t.Error("no pond:", pond)
		}
		checkMoves(t, pond)
		p := playsByHand(pond, map[string]*handPlays{})
		reached, ok := impl.PondsReached(pond)
		wantInt(t, "PondsReached "+pond, len(p.ways), reached, ok)
		play, ok := impl.LongestFrogPlay(pond)
		wantList(t, "LongestFrogPlay "+pond, p.longest, play, ok)
		play, ok = impl.ShortestStuck(pond)
		wantList(t, "ShortestStuck "+pond, p.shortest, play, ok)
		stuck, ok := impl.StuckPonds(pond)
		if !ok || len(stuck) != len(p.ends) || !slices.IsSorted(stuck) || slices.ContainsFunc(stuck, func(s string) bool { return !p.ends[s] }) {
			t.Errorf("StuckPonds %s: %v %v, want %v", pond, stuck, ok, p.ends)
		}
		for _, goal := range append(stuck, pond, exchangedByHand(pond)) {
			checkFarGoal(t, pond, goal, p.ways[goal])
		}
	}
}

// checkFarGoal requires that so many lists of moves lead to a goal, and a first one that does so.
func checkFarGoal(t *testing.T, pond, goal string, want int) {
	t.Helper()
	what := pond + " to " + goal
	ways, ok := impl.CountFrogWays(pond, goal)
	wantIntOr(t, "CountFrogWays "+what, want > 0, want, ways, ok)
	fewest, isFewest := impl.FewestFrogMoves(pond, goal)
	first, isFirst := impl.FirstFrogMoves(pond, goal)
	if isFewest != (want > 0) || isFirst != (want > 0) || fewest != len(first) {
		t.Error(what, "is told as", fewest, isFewest, first, isFirst)
	}
	if want > 0 {
		end, ok := impl.PlayFrogs(pond, first)
		wantText(t, "PlayFrogs of the first moves "+what, goal, end, ok)
	}
	if goal == exchangedByHand(pond) {
		can, ok := impl.CanExchange(pond)
		wantBool(t, "CanExchange "+pond, want > 0, can, ok)
	}
}

// gameByHand tells whether the player whose turn it is wins, noted once for each turn.
func gameByHand(pond string, sign byte, noted map[string]bool) bool {
	key := pond + string(rune(sign))
	if wins, ok := noted[key]; ok {
		return wins
	}
	wins := len(goodByHand(pond, sign, noted)) > 0
	noted[key] = wins
	return wins
}

func goodByHand(pond string, sign byte, noted map[string]bool) []int {
	var good []int
	for _, from := range movesByHand(pond) {
		behind, _, _ := hopByHand(pond, from)
		if pond[from] == sign && !gameByHand(behind, 'r'+'l'-sign, noted) {
			good = append(good, from)
		}
	}
	return good
}

func TestGamesOfLongestPonds(t *testing.T) {
	for _, pond := range somePonds() {
		noted := map[string]bool{}
		checkGame(t, pond, true, goodByHand(pond, 'r', noted))
		checkGame(t, pond, false, goodByHand(pond, 'l', noted))
	}
}

// With one free stone between both sides all of them exchange, in two ways if there are two frogs or more of each kind.
func TestExchangeOfBothSides(t *testing.T) {
	for right := range impl.MaxPond {
		for left := range impl.MaxPond - right {
			pond := strings.Repeat("r", right) + "." + strings.Repeat("l", left)
			goal := strings.Repeat("l", left) + "." + strings.Repeat("r", right)
			ways := playsByHand(pond, map[string]*handPlays{}).ways[goal]
			if right >= 2 && left >= 2 {
				ways = 2
			}
			can, ok := impl.CanExchange(pond)
			wantBool(t, "CanExchange "+pond, true, can, ok)
			fewest, ok := impl.FewestFrogMoves(pond, goal)
			wantInt(t, "FewestFrogMoves "+pond, (right+1)*(left+1)-1, fewest, ok)
			count, ok := impl.CountFrogWays(pond, goal)
			wantInt(t, "CountFrogWays "+pond, ways, count, ok)
			moves, ok := impl.FirstFrogMoves(pond, goal)
			wantInt(t, "FirstFrogMoves "+pond, fewest, len(moves), ok)
			leaps, ok := impl.LeapsIn(pond, moves)
			wantInt(t, "LeapsIn "+pond, right*left, leaps, ok)
		}
	}
}

// Three frogs of one kind go 6 stones each in as many ways as tableaux of 3 rows of 6 are filled.
func TestGreatestFrogCounts(t *testing.T) {
	ways, ok := impl.CountFrogWays("rrr......", "......rrr")
	wantInt(t, "CountFrogWays of one kind", 87516, ways, ok)
	moves, ok := impl.LongestFrogPlay("rrr...lll")
	wantInt(t, "LongestFrogPlay", 27, len(moves), ok)
	end, ok := impl.PlayFrogs("rrr...lll", moves)
	wantText(t, "PlayFrogs", "lll...rrr", end, ok)
}

// checkStill requires what holds if no frog of a pond can move.
func checkStill(t *testing.T, pond string) {
	t.Helper()
	checkMoves(t, pond)
	checkEnds(t, pond, map[string][][]int{pond: {nil}})
	checkGoal(t, pond, pond, [][]int{nil})
	checkGame(t, pond, true, nil)
	checkGame(t, pond, false, nil)
	end, ok := impl.PlayFrogs(pond, nil)
	wantText(t, "PlayFrogs "+pond, pond, end, ok)
	for from := -1; from <= len(pond); from++ {
		if end, ok := impl.PlayFrogs(pond, []int{from}); end != "" || ok {
			t.Errorf("PlayFrogs %s %d: %q %v", pond, from, end, ok)
		}
		if n, ok := impl.LeapsIn(pond, []int{from}); n != 0 || ok {
			t.Errorf("LeapsIn %s %d: %d %v", pond, from, n, ok)
		}
	}
}

func TestPondsWithoutFrogs(t *testing.T) {
	for n := 1; n <= impl.MaxPond; n++ {
		checkStill(t, strings.Repeat(".", n))
	}
}

func TestPondsOfOneStone(t *testing.T) {
	for _, pond := range []string{".", "r", "l"} {
		checkStill(t, pond)
	}
}

func TestPondsThatAreStuck(t *testing.T) {
	for _, pond := range []string{"rl", "rrll", "lr", "l.r", ".rrll", "rrll.", "rrrrrrrrr", "lllllllll", "rlrlrlrlr", "lll...rrr", "l.......r", "rrrrlllll"} {
		checkStill(t, pond)
	}
}

// A player whose frogs cannot move has lost, even if those of the other player can.
func TestOneSideAlone(t *testing.T) {
	for _, c := range []struct {
		pond               string
		rightBegins, other bool
	}{
		{"r.", true, true}, {".l", false, false}, {"r..", true, true}, {"..l", false, false}, {".", false, true}, {"rl", false, true},
	} {
		wins, ok := impl.DoesRightWin(c.pond, true)
		wantBool(t, "DoesRightWin first "+c.pond, c.rightBegins, wins, ok)
		wins, ok = impl.DoesRightWin(c.pond, false)
		wantBool(t, "DoesRightWin "+c.pond, c.other, wins, ok)
	}
}

func TestPlaysThatFail(t *testing.T) {
	tooMany := slices.Repeat([]int{0}, impl.MaxFrogMoves+1)
	cases := []struct {
		pond  string
		moves []int
	}{
		{"r.l", []int{1}}, {"r.l", []int{0, 0}}, {"r.l", []int{0, 2, 2}}, {"r.l", []int{0, 2, 1, 1}}, {"r.l", []int{3}}, {"r.l", []int{-1}},
		{"r.l", []int{0, -1}}, {"r.l", []int{0, 3}}, {"r.l", []int{math.MaxInt}}, {"r.l", []int{math.MinInt}}, {"r.l", []int{2, math.MaxInt}},
		{"rr.", []int{0}}, {".ll", []int{2}}, {"rll.", []int{0}}, {".rrl", []int{3}}, {"rl", []int{0}}, {"rl", []int{1}}, {"rr..", []int{0, 1}},
		{".r", []int{1}}, {"l.", []int{0}}, {".rl", []int{1}}, {"rl.", []int{1}}, {"lr.", []int{0}},
		{"r........", slices.Repeat([]int{0}, impl.MaxFrogMoves)}, {"r........", []int{0, 1, 2, 3, 4, 5, 6, 7, 8}},
		{"r.l", tooMany}, {".", tooMany}, {"r........", tooMany}, {"r.l", make([]int, 100000)},
	}
	for _, c := range cases {
		if end, ok := impl.PlayFrogs(c.pond, c.moves); end != "" || ok {
			t.Errorf("PlayFrogs %s %v: %q %v", c.pond, c.moves, end, ok)
		}
		if n, ok := impl.LeapsIn(c.pond, c.moves); n != 0 || ok {
			t.Errorf("LeapsIn %s %v: %d %v", c.pond, c.moves, n, ok)
		}
	}
	end, ok := impl.PlayFrogs("r........", []int{0, 1, 2, 3, 4, 5, 6, 7})
	wantText(t, "PlayFrogs over the whole pond", "........r", end, ok)
}

// The longest play there is, lengthened up to MaxFrogMoves and beyond: no frog can make the moves behind it.
func TestPlaysUpToMaxFrogMoves(t *testing.T) {
	longest, _ := impl.LongestFrogPlay("rrr...lll")
	for n := range len(longest) + 1 {
		_, ok := impl.PlayFrogs("rrr...lll", longest[:n])
		wantBool(t, fmt.Sprint("PlayFrogs of moves ", n), true, ok, true)
	}
	for n := len(longest) + 1; n <= impl.MaxFrogMoves+2; n++ {
		moves := append(slices.Clone(longest), slices.Repeat([]int{5}, n-len(longest))...)
		if end, ok := impl.PlayFrogs("rrr...lll", moves); end != "" || ok {
			t.Errorf("PlayFrogs of %d moves: %q %v", n, end, ok)
		}
		if leaps, ok := impl.LeapsIn("rrr...lll", moves); leaps != 0 || ok {
			t.Errorf("LeapsIn %d moves: %d %v", n, leaps, ok)
		}
	}
}

func TestGoalsThatFail(t *testing.T) {
	for _, c := range [][2]string{
		{"r.l", "r..l"}, {"r.l", "rl"}, {"r", ".r"}, {".", ".."}, {"rr.ll", "rr.l"}, {"r........", "........"},
		{"r.l", "rrl"}, {"r.l", "..."}, {"r.l", "l.l"}, {"...", "r.."}, {".r", "r."}, {"l.", ".l"}, {"ll.rr", "rr.ll"}, {"rl", "lr"}, {"rr", "ll"}, {".rrll", "ll.rr"},
	} {
		checkGoal(t, c[0], c[1], nil)
	}
}

// noPonds returns texts that are no ponds.
func noPonds() []string {
	return []string{
		"", "..........", "rrrrrrrrrr", "rrrr..llll", strings.Repeat("r", 100000), "R", "L", "o", "x", " ", "r l", "r.l ", " r.l", "r.l\n",
		"\x00", "r\x00l", "r,l", "r-l", "0", "ŕ", "г", "．", "r.\xff", "l/r",
	}
}

// frogCalls returns all calls of chapter 2 with a pond, told by the results that should be zero if it fails.
func frogCalls(number int, isSo bool) map[string]func(pond string) string {
	tell := func(results ...any) string { return fmt.Sprint(results...) }
	return map[string]func(pond string) string{
		"FrogMoves":              func(p string) string { a, ok := impl.FrogMoves(p); return tell(len(a), ok) },
		"MoveFrog":               func(p string) string { a, ok := impl.MoveFrog(p, number); return tell(len(a), ok) },
		"PlayFrogs":              func(p string) string { a, ok := impl.PlayFrogs(p, []int{number}); return tell(len(a), ok) },
		"PlayFrogs none":         func(p string) string { a, ok := impl.PlayFrogs(p, nil); return tell(len(a), ok) },
		"IsStuck":                func(p string) string { a, ok := impl.IsStuck(p); return tell(a, ok) },
		"ExchangeOf":             func(p string) string { a, ok := impl.ExchangeOf(p); return tell(len(a), ok) },
		"FewestFrogMoves":        func(p string) string { a, ok := impl.FewestFrogMoves(p, "r.l"); return tell(a, ok) },
		"FewestFrogMoves goal":   func(p string) string { a, ok := impl.FewestFrogMoves("r.l", p); return tell(a, ok) },
		"FewestFrogMoves itself": func(p string) string { a, ok := impl.FewestFrogMoves(p, p); return tell(a, ok) },
		"FirstFrogMoves":         func(p string) string { a, ok := impl.FirstFrogMoves(p, "r.l"); return tell(len(a), ok) },
		"FirstFrogMoves goal":    func(p string) string { a, ok := impl.FirstFrogMoves("r.l", p); return tell(len(a), ok) },
		"FirstFrogMoves itself":  func(p string) string { a, ok := impl.FirstFrogMoves(p, p); return tell(len(a), ok) },
		"CountFrogWays":          func(p string) string { a, ok := impl.CountFrogWays(p, "r.l"); return tell(a, ok) },
		"CountFrogWays goal":     func(p string) string { a, ok := impl.CountFrogWays("r.l", p); return tell(a, ok) },
		"CountFrogWays itself":   func(p string) string { a, ok := impl.CountFrogWays(p, p); return tell(a, ok) },
		"CanExchange":            func(p string) string { a, ok := impl.CanExchange(p); return tell(a, ok) },
		"PondsReached":           func(p string) string { a, ok := impl.PondsReached(p); return tell(a, ok) },
		"LongestFrogPlay":        func(p string) string { a, ok := impl.LongestFrogPlay(p); return tell(len(a), ok) },
		"ShortestStuck":          func(p string) string { a, ok := impl.ShortestStuck(p); return tell(len(a), ok) },
		"StuckPonds":             func(p string) string { a, ok := impl.StuckPonds(p); return tell(len(a), ok) },
		"LeapsIn":                func(p string) string { a, ok := impl.LeapsIn(p, []int{number}); return tell(a, ok) },
		"LeapsIn none":           func(p string) string { a, ok := impl.LeapsIn(p, nil); return tell(a, ok) },
		"DoesRightWin":           func(p string) string { a, ok := impl.DoesRightWin(p, isSo); return tell(a, ok) },
		"WinningMove":            func(p string) string { a, ok := impl.WinningMove(p, isSo); return tell(a, ok) },
		"TurnPond":               func(p string) string { a, ok := impl.TurnPond(p); return tell(len(a), ok) },
	}
}

// Promise 11: texts that are no ponds make every call fail with zero values.
func TestTextsThatAreNoPonds(t *testing.T) {
	for _, text := range noPonds() {
		if impl.IsPond(text) {
			t.Errorf("IsPond %q", text)
		}
		for _, isSo := range []bool{true, false} {
			for name, call := range frogCalls(0, isSo) {
				if told := call(text); !isFailure(told) {
					t.Errorf("%s %q: %s", name, text, told)
				}
			}
		}
	}
	for _, pond := range append(smallPonds(5), somePonds()...) {
		if !impl.IsPond(pond) {
			t.Errorf("IsPond %q is false", pond)
		}
	}
}

// Promise 11: stones out of a pond make the calls with them fail with zero values.
func TestStonesOutOfPond(t *testing.T) {
	for _, n := range oddNumbers {
		for _, pond := range []string{"rrr.rrr", "lll.lll", "rlr.lrl"} {
			_, _, can := hopByHand(pond, n)
			calls := frogCalls(n, true)
			for _, name := range []string{"MoveFrog", "PlayFrogs", "LeapsIn"} {
				if told := calls[name](pond); can == isFailure(told) {
					t.Errorf("%s %s %d: %s", name, pond, n, told)
				}
			}
		}
	}
}

// Promise 11: no call panics, whatever ponds and stones are put together, and no call changes a later one.
func TestFrogCallsAreTotal(t *testing.T) {
	texts := append(noPonds(), ".", "r", "l", "r.l", "rl.", ".rl", "rr.ll", "rrr...lll", "rrrr.llll")
	for _, n := range oddNumbers {
		for name, call := range frogCalls(n, n%2 == 0) {
			for _, text := range texts {
				first, again := call(text), call(text)
				if first != again {
					t.Errorf("%s %q %d: %s, then %s", name, text, n, first, again)
				}
			}
		}
	}
}

// Promise 11: moves given to PlayFrogs and LeapsIn stay as they are, and so does the room behind them.
func TestFrogArgumentsAreNotChanged(t *testing.T) {
	for _, moves := range [][]int{{}, {1}, {1, 0}, {1, 3, 4, 2, 0, 1, 3, 2}, {1, 1}, {5}, {-1, 3}, {math.MaxInt}, make([]int, impl.MaxFrogMoves), make([]int, impl.MaxFrogMoves+1)} {
		given := withRoom(moves)
		for _, pond := range []string{"rr.ll", "no pond", ".", "r........"} {
			impl.PlayFrogs(pond, given)
			impl.LeapsIn(pond, given)
		}
		if !isUntouched(given, moves) {
			t.Error("a call changes", moves)
		}
	}
}

// Promise 11: a list that is returned is new memory, so that what is written to it is not seen in the next one.
func TestFrogResultsAreNew(t *testing.T) {
	calls := map[string]func() ([]int, bool){
		"FrogMoves":       func() ([]int, bool) { return impl.FrogMoves("r.l") },
		"FirstFrogMoves":  func() ([]int, bool) { return impl.FirstFrogMoves("rr.ll", "ll.rr") },
		"LongestFrogPlay": func() ([]int, bool) { return impl.LongestFrogPlay("rr.ll") },
		"ShortestStuck":   func() ([]int, bool) { return impl.ShortestStuck("rr.ll") },
	}
	wantNewLists(t, calls)
	stuck, _ := impl.StuckPonds("rr.ll")
	kept := slices.Clone(stuck)
	clear(stuck[:cap(stuck)])
	if again, ok := impl.StuckPonds("rr.ll"); !slices.Equal(again, kept) || !ok || len(kept) == 0 {
		t.Error("StuckPonds:", again, ok)
	}
}

// Promise 11: a text that is returned is new memory even if it has the signs of the argument.
func TestFrogTextsAreNew(t *testing.T) {
	pond := strings.Clone("ll..rr")
	played, _ := impl.PlayFrogs(pond, nil)
	exchanged, _ := impl.ExchangeOf(pond)
	turned, _ := impl.TurnPond(pond)
	stuck, _ := impl.StuckPonds(pond)
	if len(stuck) != 1 {
		t.Fatal("StuckPonds", stuck)
	}
	for name, text := range map[string]string{"PlayFrogs": played, "ExchangeOf": exchanged, "TurnPond": turned, "StuckPonds": stuck[0]} {
		if text != pond || unsafe.StringData(text) == unsafe.StringData(pond) {
			t.Errorf("%s hands out its argument, or another pond: %q", name, text)
		}
	}
}
