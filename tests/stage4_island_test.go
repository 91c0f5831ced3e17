package tests

import (
	"fmt"
	"math"
	"regexp"
	"slices"
	"strings"
	"testing"
	"unsafe"

	"loop.example/g01352/impl"
)

const exampleIsles = "4i0-1:3,1-2:2,0-2:4,2-3:5"

// islesOf returns the isles that a text tells.
func islesOf(t *testing.T, text string) impl.Isles {
	t.Helper()
	s, ok := impl.ParseIsles(text)
	if !ok {
		t.Fatalf("ParseIsles %q fails", text)
	}
	return s
}

func isSameIsles(s, other impl.Isles) bool {
	return s.Count == other.Count && slices.Equal(s.Bridges, other.Bridges)
}

// wantIsles requires the isles if there are some, and that the call fails otherwise.
func wantIsles(t *testing.T, what string, exists bool, want, got impl.Isles, ok bool) {
	t.Helper()
	if !exists {
		want = impl.Isles{}
	}
	if !isSameIsles(want, got) || ok != exists {
		t.Errorf("%s: %v %v, want %v %v", what, got, ok, want, exists)
	}
}

func isBridgeAt(b impl.Bridge, island int) bool { return island == b.A || island == b.B }

// linksByHand tells of all two islands whether there is a way: at first with no other one between, then with ever more.
func linksByHand(s impl.Isles) [impl.MaxIslands][impl.MaxIslands]bool {
	var links [impl.MaxIslands][impl.MaxIslands]bool
	for island := range s.Count {
		links[island][island] = true
	}
	for _, b := range s.Bridges {
		links[b.A][b.B], links[b.B][b.A] = true, true
	}
	for between := range s.Count {
		for from := range s.Count {
			for to := range s.Count {
				links[from][to] = links[from][to] || links[from][between] && links[between][to]
			}
		}
	}
	return links
}

// leadersByHand returns the least island of each group, increasing.
func leadersByHand(s impl.Isles) []int {
	links := linksByHand(s)
	var leaders []int
	for island := range s.Count {
		if slices.Index(links[island][:], true) == island {
			leaders = append(leaders, island)
		}
	}
	return leaders
}

func islesWith(s impl.Isles, part []int) impl.Isles {
	less := impl.Isles{Count: s.Count}
	for _, k := range part {
		less.Bridges = append(less.Bridges, s.Bridges[k])
	}
	return less
}

// joiningsByHand looks at all parts of the bridges and returns the least sum of tolls of those that join all islands, and the parts with it that are as small as can be.
func joiningsByHand(s impl.Isles) (int, [][]int) {
	least := math.MaxInt
	var best [][]int
	for _, part := range partsOf(len(s.Bridges)) {
		joined := islesWith(s, part)
		if len(leadersByHand(joined)) > 1 {
			continue
		}
		sum := 0
		for _, b := range joined.Bridges {
			sum += b.Toll
		}
		if sum < least {
			least, best = sum, nil
		}
		if sum == least && len(part) == s.Count-1 {
			best = append(best, part)
		}
	}
	return least, best
}

func checkGroups(t *testing.T, what string, s impl.Isles) {
	t.Helper()
	links := linksByHand(s)
	for island := range s.Count {
		var group []int
		for other := range s.Count {
			if links[island][other] {
				group = append(group, other)
			}
		}
		got, ok := impl.GroupOf(s, island)
		wantList(t, fmt.Sprint("GroupOf ", what, island), group, got, ok)
	}
	groups, ok := impl.CountGroups(s)
	wantInt(t, "CountGroups "+what, len(leadersByHand(s)), groups, ok)
}

func checkJoining(t *testing.T, what string, s impl.Isles) {
	t.Helper()
	least, best := joiningsByHand(s)
	isOne := len(best) > 0
	sum, ok := impl.LeastToJoin(s)
	wantIntOr(t, "LeastToJoin "+what, isOne, least, sum, ok)
	count, ok := impl.CountToJoin(s)
	wantIntOr(t, "CountToJoin "+what, isOne, len(best), count, ok)
	var want []int
	if isOne {
		want = best[0]
	}
	first, ok := impl.FirstToJoin(s)
	wantListOr(t, "FirstToJoin "+what, isOne, want, first, ok)
}

func checkCuts(t *testing.T, what string, s impl.Isles) {
	t.Helper()
	groups := len(leadersByHand(s))
	var bridges, islands []int
	for k := range s.Bridges {
		less := impl.Isles{Count: s.Count, Bridges: append(slices.Clone(s.Bridges[:k]), s.Bridges[k+1:]...)}
		if len(leadersByHand(less)) > groups {
			bridges = append(bridges, k)
		}
	}
	for island := range s.Count {
		less := impl.Isles{Count: s.Count}
		for _, b := range s.Bridges {
			if !isBridgeAt(b, island) {
				less.Bridges = append(less.Bridges, b)
			}
		}
		others := slices.DeleteFunc(leadersByHand(less), func(leader int) bool { return leader == island })
		if len(others) > groups {
			islands = append(islands, island)
		}
	}
	cuts, ok := impl.CutBridges(s)
	wantList(t, "CutBridges "+what, bridges, cuts, ok)
	cuts, ok = impl.CutIslands(s)
	wantList(t, "CutIslands "+what, islands, cuts, ok)
}

type wayByHand struct {
	islands []int
	toll    int
}

// tollByHand returns the least toll between two islands, or -1.
func tollByHand(s impl.Isles, one, other int) int {
	least := -1
	for _, b := range s.Bridges {
		if one != other && isBridgeAt(b, one) && isBridgeAt(b, other) && (least < 0 || b.Toll < least) {
			least = b.Toll
		}
	}
	return least
}

// waysByHand returns all ways from an island on which none is twice.
func waysByHand(s impl.Isles, from int) []wayByHand {
	ways := []wayByHand{{[]int{from}, 0}}
	for i := 0; i < len(ways); i++ {
		way := ways[i]
		for next := range s.Count {
			toll := tollByHand(s, way.islands[len(way.islands)-1], next)
			if toll >= 0 && !slices.Contains(way.islands, next) {
				ways = append(ways, wayByHand{append(slices.Clone(way.islands), next), way.toll + toll})
			}
		}
	}
	return ways
}

// waysTo returns those of the ways that lead to an island, the cheapest ones first, and equally cheap ones in order.
func waysTo(ways []wayByHand, to int) []wayByHand {
	var there []wayByHand
	for _, way := range ways {
		if way.islands[len(way.islands)-1] == to {
			there = append(there, way)
		}
	}
	slices.SortFunc(there, func(a, b wayByHand) int {
		if a.toll != b.toll {
			return a.toll - b.toll
		}
		return slices.Compare(a.islands, b.islands)
	})
	return there
}

func fewestBridges(ways []wayByHand) int {
	fewest := impl.MaxIslands
	for _, way := range ways {
		fewest = min(fewest, len(way.islands)-1)
	}
	return fewest
}

func checkWays(t *testing.T, what string, s impl.Isles) {
	t.Helper()
	center, least := -1, math.MaxInt
	for from := range s.Count {
		ways := waysByHand(s, from)
		farthest, most := -1, -1
		for to := range s.Count {
			there := waysTo(ways, to)
			checkWay(t, fmt.Sprint(what, " ", from, to), s, from, to, there)
			if len(there) > 0 && there[0].toll > most {
				farthest, most = to, there[0].toll
			}
		}
		island, toll, ok := impl.FarthestIsland(s, from)
		if island != farthest || toll != most || !ok {
			t.Errorf("FarthestIsland %s %d: %d %d %v, want %d %d", what, from, island, toll, ok, farthest, most)
		}
		if most < least {
			center, least = from, most
		}
	}
	isOne := len(leadersByHand(s)) == 1
	if !isOne {
		center, least = 0, 0
	}
	island, toll, ok := impl.CenterIsland(s)
	if island != center || toll != least || ok != isOne {
		t.Errorf("CenterIsland %s: %d %d %v, want %d %d %v", what, island, toll, ok, center, least, isOne)
	}
}

// checkWay looks at two islands and all ways between them.
func checkWay(t *testing.T, what string, s impl.Isles, from, to int, there []wayByHand) {
	t.Helper()
	best := wayByHand{}
	if len(there) > 0 {
		best = there[0]
	}
	toll, ok := impl.TollBetween(s, from, to)
	wantIntOr(t, "TollBetween "+what, len(there) > 0, best.toll, toll, ok)
	way, ok := impl.FirstWayOver(s, from, to)
	wantListOr(t, "FirstWayOver "+what, len(there) > 0, best.islands, way, ok)
	bridges, ok := impl.BridgesBetween(s, from, to)
	wantIntOr(t, "BridgesBetween "+what, len(there) > 0, fewestBridges(there), bridges, ok)
}

// roundSearch goes over bridges in every order. It keeps in mind where no round came of it.
type roundSearch struct {
	isles impl.Isles
	home  int
	dead  map[[2]int]bool
}

// onFrom returns the first list of the bridges that are not yet in a set, as one goes over them from here to home.
func (r roundSearch) onFrom(here, set int) ([]int, bool) {
	if set == 1<<len(r.isles.Bridges)-1 {
		return nil, here == r.home
	}
	if r.dead[[2]int{here, set}] {
		return nil, false
	}
	for k, b := range r.isles.Bridges {
		if set>>k&1 == 1 || !isBridgeAt(b, here) {
			continue
		}
		if rest, ok := r.onFrom(b.A+b.B-here, set|1<<k); ok {
			return append([]int{k}, rest...), true
		}
	}
	r.dead[[2]int{here, set}] = true
	return nil, false
}

func checkRounds(t *testing.T, what string, s impl.Isles) {
	t.Helper()
	isSome := false
	for from := range s.Count {
		want, exists := roundSearch{s, from, map[[2]int]bool{}}.onFrom(from, 0)
		round, ok := impl.FirstRound(s, from)
		wantListOr(t, fmt.Sprint("FirstRound ", what, " ", from), exists, want, round, ok)
		isSome = isSome || exists
	}
	has, ok := impl.HasRound(s)
	wantBool(t, "HasRound "+what, isSome, has, ok)
}

// textByHand writes isles down.
func textByHand(s impl.Isles) string {
	text := fmt.Sprint(s.Count, "i")
	for k, b := range s.Bridges {
		if k > 0 {
			text += ","
		}
		text += fmt.Sprintf("%d-%d:%d", b.A, b.B, b.Toll)
	}
	return strings.ReplaceAll(text, " ", "")
}

func checkText(t *testing.T, s impl.Isles) {
	t.Helper()
	want := textByHand(s)
	text, ok := impl.IslesText(s)
	wantText(t, "IslesText", want, text, ok)
	read, ok := impl.ParseIsles(want)
	wantIsles(t, "ParseIsles "+want, true, s, read, ok)
}

// checkIsles compares all results with those told by hand.
func checkIsles(t *testing.T, s impl.Isles) {
	t.Helper()
	what := textByHand(s)
	if !impl.AreIsles(s) {
		t.Error("AreIsles is false of", what)
	}
	checkGroups(t, what, s)
	checkJoining(t, what, s)
	checkCuts(t, what, s)
	checkWays(t, what, s)
	checkRounds(t, what, s)
	checkText(t, s)
}

// bridgeKinds returns all bridges between islands with some tolls.
func bridgeKinds(count int, tolls ...int) []impl.Bridge {
	var kinds []impl.Bridge
	for a := range count {
		for b := a + 1; b < count; b++ {
			for _, toll := range tolls {
				kinds = append(kinds, impl.Bridge{A: a, B: b, Toll: toll})
			}
		}
	}
	return kinds
}

// smallIsles returns all isles with up to most bridges of some kinds.
func smallIsles(count, most int, kinds []impl.Bridge) []impl.Isles {
	all := []impl.Isles{{Count: count}}
	last := all
	for range most {
		var longer []impl.Isles
		for _, s := range last {
			for _, b := range kinds {
				longer = append(longer, impl.Isles{Count: count, Bridges: append(slices.Clone(s.Bridges), b)})
			}
		}
		all, last = append(all, longer...), longer
	}
	return all
}

// mixedBridge returns a bridge from an island to another one.
func mixedBridge(row *mixedRow, count, from, mostToll int) impl.Bridge {
	to := (from + 1 + row.next(count-1)) % count
	return impl.Bridge{A: min(from, to), B: max(from, to), Toll: row.next(mostToll + 1)}
}

func mixedIsles(row *mixedRow, count, bridges, mostToll int) impl.Isles {
	s := impl.Isles{Count: count}
	for range bridges {
		s.Bridges = append(s.Bridges, mixedBridge(row, count, row.next(count), mostToll))
	}
	return s
}

// roundIsles returns isles with a round: one goes along over new bridges and at last home, and the bridges are put down in another order.
func roundIsles(row *mixedRow, count, bridges int) impl.Isles {
	home := row.next(count)
	here := home
	s := impl.Isles{Count: count}
	for len(s.Bridges) < bridges-1 || here == home {
		b := mixedBridge(row, count, here, 9)
		here = b.A + b.B - here
		s.Bridges = slices.Insert(s.Bridges, row.next(len(s.Bridges)+1), b)
	}
	last := impl.Bridge{A: min(here, home), B: max(here, home), Toll: 1}
	s.Bridges = slices.Insert(s.Bridges, row.next(len(s.Bridges)+1), last)
	return s
}

func TestIslandExample(t *testing.T) {
	s := islesOf(t, exampleIsles)
	sum, ok := impl.LeastToJoin(s)
	wantInt(t, "LeastToJoin", 10, sum, ok)
	list, ok := impl.FirstToJoin(s)
	wantList(t, "FirstToJoin", []int{0, 1, 3}, list, ok)
	list, ok = impl.CutBridges(s)
	wantList(t, "CutBridges", []int{3}, list, ok)
	list, ok = impl.CutIslands(s)
	wantList(t, "CutIslands", []int{2}, list, ok)
	toll, ok := impl.TollBetween(s, 0, 3)
	wantInt(t, "TollBetween", 9, toll, ok)
	list, ok = impl.FirstWayOver(s, 0, 3)
	wantList(t, "FirstWayOver", []int{0, 2, 3}, list, ok)
	center, toll, ok := impl.CenterIsland(s)
	wantInt(t, "CenterIsland", 2, center, ok)
	wantInt(t, "CenterIsland's toll", 5, toll, ok)
	has, ok := impl.HasRound(s)
	wantBool(t, "HasRound", false, has, ok)
	less, ok := impl.DropBridge(s, 3)
	wantIsles(t, "DropBridge", true, islesOf(t, "4i0-1:3,1-2:2,0-2:4"), less, ok)
	has, ok = impl.HasRound(less)
	wantBool(t, "HasRound without the bridge 3", true, has, ok)
	list, ok = impl.FirstRound(less, 0)
	wantList(t, "FirstRound", []int{0, 1, 2}, list, ok)
	checkIsles(t, s)
	checkIsles(t, less)
}

// Promise 4: for all small isles everything agrees with joining parts, ways and rounds told one by one.
func TestSmallIsles(t *testing.T) {
	all := smallIsles(1, 1, nil)
	all = append(all, smallIsles(2, 4, bridgeKinds(2, 0, 1, 2))...)
	all = append(all, smallIsles(3, 4, bridgeKinds(3, 0, 1))...)
	all = append(all, smallIsles(4, 3, bridgeKinds(4, 1, 2))...)
	for _, s := range all {
		checkIsles(t, s)
	}
}

// Promise 4: all isles with 5 islands of which no two have several bridges.
func TestSimpleIsles(t *testing.T) {
	kinds := bridgeKinds(5, 1)
	for k := range kinds {
		kinds[k].Toll = 1 + k*k%4
	}
	for _, part := range partsOf(len(kinds)) {
		checkIsles(t, islesWith(impl.Isles{Count: 5, Bridges: kinds}, part))
	}
}

// Promise 4: mixed isles up to MaxIslands and MaxBridges, with tolls up to MaxToll.
func TestMixedIsles(t *testing.T) {
	row := &mixedRow{1}
	for range 300 {
		mostToll := []int{0, 1, 3, 10, impl.MaxToll}[row.next(5)]
		checkIsles(t, mixedIsles(row, 2+row.next(impl.MaxIslands-1), row.next(11), mostToll))
	}
	for range 12 {
		checkIsles(t, mixedIsles(row, impl.MaxIslands, 11+row.next(4), []int{1, 4, impl.MaxToll}[row.next(3)]))
	}
}

// Promise 4: isles with rounds have one from each island that has bridges, and the first one is told.
func TestIslesWithRounds(t *testing.T) {
	row := &mixedRow{2}
	for range 250 {
		checkRoundIsles(t, roundIsles(row, 2+row.next(impl.MaxIslands-1), 2+row.next(9)))
	}
	for range 40 {
		checkRoundIsles(t, roundIsles(row, 4+row.next(impl.MaxIslands-3), impl.MaxBridges-1))
	}
}

func checkRoundIsles(t *testing.T, s impl.Isles) {
	t.Helper()
	if len(s.Bridges) > impl.MaxBridges {
		return
	}
	what := textByHand(s)
	checkRounds(t, what, s)
	has, ok := impl.HasRound(s)
	wantBool(t, "HasRound "+what, true, has, ok)
	for from := range s.Count {
		if !slices.ContainsFunc(s.Bridges, func(b impl.Bridge) bool { return isBridgeAt(b, from) }) {
			continue
		}
		if round, ok := impl.FirstRound(s, from); !ok || !isRound(s, from, round) {
			t.Errorf("FirstRound %s %d: %v %v", what, from, round, ok)
		}
	}
}

// isRound goes along a list of bridges and looks whether it is over each one once, and whether it ends at home.
func isRound(s impl.Isles, home int, round []int) bool {
	here := home
	for i, k := range round {
		if k < 0 || k >= len(s.Bridges) || slices.Contains(round[:i], k) || !isBridgeAt(s.Bridges[k], here) {
			return false
		}
		here = s.Bridges[k].A + s.Bridges[k].B - here
	}
	return here == home && len(round) == len(s.Bridges)
}

// Promise 4: when all bridges but the cheapest ones that join are dropped, all islands are still one group, each bridge is needed, and the tolls are the least sum.
func TestCheapestBridgesJoin(t *testing.T) {
	row := &mixedRow{3}
	for range 300 {
		s := mixedIsles(row, 2+row.next(impl.MaxIslands-1), row.next(impl.MaxBridges+1), 20)
		list, isOne := impl.FirstToJoin(s)
		if !isOne {
			continue
		}
		sum, less := 0, s
		for k := len(s.Bridges) - 1; k >= 0; k-- {
			if slices.Contains(list, k) {
				sum += s.Bridges[k].Toll
			} else {
				less, _ = impl.DropBridge(less, k)
			}
		}
		what := fmt.Sprint(textByHand(s), list)
		groups, ok := impl.CountGroups(less)
		wantInt(t, "CountGroups "+what, 1, groups, ok)
		least, ok := impl.LeastToJoin(s)
		wantInt(t, "LeastToJoin "+what, sum, least, ok)
		cuts, ok := impl.CutBridges(less)
		wantInt(t, "CutBridges "+what, s.Count-1, len(cuts), ok)
	}
}

// One island without bridges is joined by none, is its own group and center, and its round is empty.
func TestOneIsland(t *testing.T) {
	s := islesOf(t, "1i")
	checkIsles(t, s)
	group, ok := impl.GroupOf(s, 0)
	wantList(t, "GroupOf", []int{0}, group, ok)
	sum, ok := impl.LeastToJoin(s)
	wantInt(t, "LeastToJoin", 0, sum, ok)
	first, ok := impl.FirstToJoin(s)
	wantList(t, "FirstToJoin", nil, first, ok)
	count, ok := impl.CountToJoin(s)
	wantInt(t, "CountToJoin", 1, count, ok)
	way, ok := impl.FirstWayOver(s, 0, 0)
	wantList(t, "FirstWayOver", []int{0}, way, ok)
	has, ok := impl.HasRound(s)
	wantBool(t, "HasRound", true, has, ok)
	round, ok := impl.FirstRound(s, 0)
	wantList(t, "FirstRound", nil, round, ok)
	center, toll, ok := impl.CenterIsland(s)
	wantInt(t, "CenterIsland", 0, center, ok)
	wantInt(t, "CenterIsland's toll", 0, toll, ok)
}

// Islands without bridges are groups of their own, cut nothing off, and have rounds over no bridges.
func TestIslandsWithoutBridges(t *testing.T) {
	for count := 1; count <= impl.MaxIslands; count++ {
		s := impl.Isles{Count: count, Bridges: []impl.Bridge{}}
		checkIsles(t, s)
		groups, ok := impl.CountGroups(s)
		wantInt(t, "CountGroups", count, groups, ok)
		has, ok := impl.HasRound(s)
		wantBool(t, "HasRound", true, has, ok)
		for from := range count {
			round, ok := impl.FirstRound(s, from)
			wantList(t, "FirstRound", nil, round, ok)
		}
	}
}

// MaxIslands islands in a ring, each joined twice to the next one, have MaxBridges bridges.
func TestMostIslandsAndBridges(t *testing.T) {
	ring := impl.Isles{Count: impl.MaxIslands}
	for range 2 {
		for island := range impl.MaxIslands {
			next := (island + 1) % impl.MaxIslands
			ring.Bridges = append(ring.Bridges, impl.Bridge{A: min(island, next), B: max(island, next), Toll: impl.MaxToll})
		}
	}
	checkIsles(t, ring)
	sum, ok := impl.LeastToJoin(ring)
	wantInt(t, "LeastToJoin", 6*impl.MaxToll, sum, ok)
	count, ok := impl.CountToJoin(ring)
	wantInt(t, "CountToJoin", 7*64, count, ok)
	round, ok := impl.FirstRound(ring, 0)
	wantList(t, "FirstRound", []int{0, 1, 2, 3, 4, 5, 6, 7, 8, 9, 10, 11, 12, 13}, round, ok)
	center, toll, ok := impl.CenterIsland(ring)
	wantInt(t, "CenterIsland", 0, center, ok)
	wantInt(t, "CenterIsland's toll", 3*impl.MaxToll, toll, ok)

	row := impl.Isles{Count: impl.MaxIslands}
	for island := range impl.MaxIslands - 1 {
		row.Bridges = append(row.Bridges, impl.Bridge{A: island, B: island + 1, Toll: impl.MaxToll})
	}
	checkIsles(t, row)
	farthest, toll, ok := impl.FarthestIsland(row, 0)
	wantInt(t, "FarthestIsland", 6, farthest, ok)
	wantInt(t, "FarthestIsland's toll", 6*impl.MaxToll, toll, ok)
	cuts, ok := impl.CutIslands(row)
	wantList(t, "CutIslands", []int{1, 2, 3, 4, 5}, cuts, ok)
}

// Five islands of which all two are joined are joined in 5*5*5 ways.
func TestMostWaysToJoin(t *testing.T) {
	for toll := range 3 {
		s := impl.Isles{Count: 5, Bridges: bridgeKinds(5, toll)}
		count, ok := impl.CountToJoin(s)
		wantInt(t, "CountToJoin", 125, count, ok)
		sum, ok := impl.LeastToJoin(s)
		wantInt(t, "LeastToJoin", 4*toll, sum, ok)
		first, ok := impl.FirstToJoin(s)
		wantList(t, "FirstToJoin", []int{0, 1, 2, 3}, first, ok)
	}
}

// Of several bridges between two islands the cheapest ones count, and none of them cuts anything off.
func TestSeveralBridgesBetweenTwo(t *testing.T) {
	s := islesOf(t, "2i0-1:5,0-1:3,0-1:7,0-1:3")
	checkIsles(t, s)
	first, ok := impl.FirstToJoin(s)
	wantList(t, "FirstToJoin", []int{1}, first, ok)
	count, ok := impl.CountToJoin(s)
	wantInt(t, "CountToJoin", 2, count, ok)
	cuts, ok := impl.CutBridges(s)
	wantList(t, "CutBridges", nil, cuts, ok)
	toll, ok := impl.TollBetween(s, 1, 0)
	wantInt(t, "TollBetween", 3, toll, ok)
	round, ok := impl.FirstRound(s, 1)
	wantList(t, "FirstRound", []int{0, 1, 2, 3}, round, ok)
	odd, _ := impl.DropBridge(s, 0)
	has, ok := impl.HasRound(odd)
	wantBool(t, "HasRound of three bridges", false, has, ok)
	many := impl.Isles{Count: 2, Bridges: slices.Repeat([]impl.Bridge{{A: 0, B: 1, Toll: 4}}, impl.MaxBridges)}
	checkIsles(t, many)
}

// Ways may be longer than others for the same toll: of bridges that cost nothing, the first way is not the shortest one.
func TestTollsOfNothing(t *testing.T) {
	s := islesOf(t, "4i0-3:0,0-1:0,1-2:0,2-3:0")
	checkIsles(t, s)
	way, ok := impl.FirstWayOver(s, 0, 3)
	wantList(t, "FirstWayOver", []int{0, 1, 2, 3}, way, ok)
	way, ok = impl.FirstWayOver(s, 2, 3)
	wantList(t, "FirstWayOver back", []int{2, 1, 0, 3}, way, ok)
	bridges, ok := impl.BridgesBetween(s, 0, 3)
	wantInt(t, "BridgesBetween", 1, bridges, ok)
	farthest, toll, ok := impl.FarthestIsland(s, 2)
	wantInt(t, "FarthestIsland", 0, farthest, ok)
	wantInt(t, "FarthestIsland's toll", 0, toll, ok)
	dear := islesOf(t, "3i0-1:1000,0-2:999,1-2:0,0-1:0")
	checkIsles(t, dear)
	toll, ok = impl.TollBetween(dear, 0, 2)
	wantInt(t, "TollBetween", 0, toll, ok)
}

// A way from an island to itself is it alone, even where rounds cost nothing.
func TestWaysFromAnIslandToItself(t *testing.T) {
	for _, text := range []string{"1i", "3i", exampleIsles, "3i0-1:0,1-2:0,0-2:0", "2i0-1:1000"} {
		s := islesOf(t, text)
		for island := range s.Count {
			toll, ok := impl.TollBetween(s, island, island)
			wantInt(t, "TollBetween "+text, 0, toll, ok)
			way, ok := impl.FirstWayOver(s, island, island)
			wantList(t, "FirstWayOver "+text, []int{island}, way, ok)
			bridges, ok := impl.BridgesBetween(s, island, island)
			wantInt(t, "BridgesBetween "+text, 0, bridges, ok)
		}
	}
}

// Islands of several groups are not joined, have no center, and no ways to each other. Rounds are in one group alone.
func TestSeveralGroups(t *testing.T) {
	s := islesOf(t, "7i0-2:1,2-4:2,0-4:3,1-3:4,3-5:5,1-5:6")
	checkIsles(t, s)
	group, ok := impl.GroupOf(s, 3)
	wantList(t, "GroupOf", []int{1, 3, 5}, group, ok)
	groups, ok := impl.CountGroups(s)
	wantInt(t, "CountGroups", 3, groups, ok)
	has, ok := impl.HasRound(s)
	wantBool(t, "HasRound of two groups", false, has, ok)
	round, ok := impl.FirstRound(s, 0)
	wantListOr(t, "FirstRound of two groups", false, nil, round, ok)
	farthest, toll, ok := impl.FarthestIsland(s, 5)
	wantInt(t, "FarthestIsland", 1, farthest, ok)
	wantInt(t, "FarthestIsland's toll", 6, toll, ok)
	farthest, toll, ok = impl.FarthestIsland(s, 6)
	wantInt(t, "FarthestIsland alone", 6, farthest, ok)
	wantInt(t, "FarthestIsland's toll alone", 0, toll, ok)

	one := islesOf(t, "5i1-3:4,3-4:5,1-4:6")
	checkIsles(t, one)
	has, ok = impl.HasRound(one)
	wantBool(t, "HasRound of one group with bridges", true, has, ok)
	round, ok = impl.FirstRound(one, 4)
	wantList(t, "FirstRound", []int{1, 0, 2}, round, ok)
	round, ok = impl.FirstRound(one, 0)
	wantListOr(t, "FirstRound from an island without bridges", false, nil, round, ok)
}

// At each place of the first round the first bridge is taken that does not cut the others off.
func TestFirstRoundIsFirst(t *testing.T) {
	cases := []struct {
		text string
		from int
		want []int
	}{
		{"5i0-1:1,1-2:1,0-2:1,0-3:1,3-4:1,0-4:1", 0, []int{0, 1, 2, 3, 4, 5}},
		{"5i0-1:1,1-2:1,0-2:1,0-3:1,3-4:1,0-4:1", 1, []int{0, 3, 4, 5, 2, 1}},
		{"5i0-1:1,1-2:1,0-2:1,0-3:1,3-4:1,0-4:1", 4, []int{4, 3, 0, 1, 2, 5}},
		{"3i1-2:1,0-1:1,1-2:1,0-1:1", 1, []int{0, 2, 1, 3}},
		{"3i1-2:1,0-1:1,1-2:1,0-1:1", 2, []int{0, 1, 3, 2}},
		{"3i0-1:1,1-2:1,0-1:1,1-2:1", 0, []int{0, 1, 3, 2}},
	}
	for _, c := range cases {
		s := islesOf(t, c.text)
		checkRounds(t, c.text, s)
		round, ok := impl.FirstRound(s, c.from)
		wantList(t, fmt.Sprint("FirstRound ", c.text, " ", c.from), c.want, round, ok)
	}
}

// Bridges are added behind the others, and dropped wherever they are.
func TestBridgesAddedAndDropped(t *testing.T) {
	for _, s := range smallIsles(3, 3, bridgeKinds(3, 0, impl.MaxToll)) {
		for _, b := range bridgeKinds(3, 0, 1, impl.MaxToll) {
			want := impl.Isles{Count: 3, Bridges: append(slices.Clone(s.Bridges), b)}
			more, ok := impl.AddBridge(s, b)
			wantIsles(t, "AddBridge "+textByHand(want), true, want, more, ok)
			back, ok := impl.DropBridge(more, len(s.Bridges))
			wantIsles(t, "DropBridge "+textByHand(want), true, s, back, ok)
		}
		for k := range s.Bridges {
			want := impl.Isles{Count: 3, Bridges: append(slices.Clone(s.Bridges[:k]), s.Bridges[k+1:]...)}
			less, ok := impl.DropBridge(s, k)
			wantIsles(t, fmt.Sprint("DropBridge ", textByHand(s), " ", k), true, want, less, ok)
		}
	}
}

// Isles to which no bridge can be added: those with MaxBridges, and one island, for which none is a bridge.
func TestNoBridgeCanBeAdded(t *testing.T) {
	s := impl.Isles{Count: impl.MaxIslands}
	b := impl.Bridge{A: 0, B: impl.MaxIslands - 1, Toll: impl.MaxToll}
	for k := range impl.MaxBridges + 3 {
		more, ok := impl.AddBridge(s, b)
		want := impl.Isles{Count: s.Count, Bridges: slices.Repeat([]impl.Bridge{b}, k+1)}
		wantIsles(t, fmt.Sprint("AddBridge to ", k), k < impl.MaxBridges, want, more, ok)
		if ok {
			s = more
		}
	}
	less, ok := impl.DropBridge(s, 5)
	if !ok || len(less.Bridges) != impl.MaxBridges-1 {
		t.Error("DropBridge of MaxBridges", less, ok)
	}
	again, ok := impl.AddBridge(less, b)
	wantIsles(t, "AddBridge again", true, s, again, ok)
	for _, b := range []impl.Bridge{{}, {A: 0, B: 1}, {A: 0, B: 0, Toll: 1}, {A: -1, B: 0}} {
		more, ok := impl.AddBridge(impl.Isles{Count: 1}, b)
		wantIsles(t, "AddBridge to one island", false, impl.Isles{}, more, ok)
	}
}

// islesPattern is what all texts of isles look like, with islands that may be none of them and tolls that may be too great.
var islesPattern = regexp.MustCompile(`^[1-7]i([0-6]-[0-6]:(0|[1-9][0-9]{0,3})(,[0-6]-[0-6]:(0|[1-9][0-9]{0,3})){0,13})?$`)

// parsedByHand reads the numbers of a text one by one.
func parsedByHand(text string) (impl.Isles, bool) {
	if !islesPattern.MatchString(text) || strings.HasSuffix(text, "\n") {
		return impl.Isles{}, false
	}
	s := impl.Isles{Count: int(text[0] - '0')}
	for word := range strings.SplitSeq(text[2:], ",") {
		if word == "" {
			continue
		}
		var b impl.Bridge
		fmt.Sscanf(word, "%d-%d:%d", &b.A, &b.B, &b.Toll)
		if b.A >= b.B || b.B >= s.Count || b.Toll > impl.MaxToll {
			return impl.Isles{}, false
		}
		s.Bridges = append(s.Bridges, b)
	}
	return s, true
}

func checkParse(t *testing.T, text string) {
	t.Helper()
	want, exists := parsedByHand(text)
	s, ok := impl.ParseIsles(text)
	wantIsles(t, fmt.Sprintf("ParseIsles %q", text), exists, want, s, ok)
}

func TestChangedTextsOfIsles(t *testing.T) {
	texts := []string{"1i", "7i", "2i0-1:0", "3i0-1:10,0-2:1000", exampleIsles, "7i5-6:999,0-1:100", "7i" + strings.Repeat("0-6:7,", 13) + "0-6:7"}
	for _, text := range texts {
		checkParse(t, text)
		for _, changed := range changedTexts(text) {
			checkParse(t, changed)
		}
	}
	for _, text := range changedTexts("2i0-1:1") {
		for _, changed := range changedTexts(text) {
			checkParse(t, changed)
		}
	}
}

// Promise 11: texts that tell no isles, with superfluous zeros, signs and others, make ParseIsles fail with no isles.
func TestTextsThatAreNoIsles(t *testing.T) {
	for _, text := range []string{
		"", "i", "0i", "8i", "10i", "-1i", "+3i", "03i", "00i", "3", "0", "3j", "ii", "3ii", "3i,", "i3", "3 i", " 3i", "3i ", "3i\n", "3I", "٣i", "３i",
		"3i0", "3i0-", "3i0-1", "3i0-1:", "3i-1:1", "3i0:1", "3i-:", "3i0-:1", "3i:1", "3i-", "3i:", "3i0-1:1,", "3i,0-1:1", "3i0-1:1,,1-2:1", "3i0-1:1,1-2", "3i0-1:1,1", "3i0-1:1 1-2:1", "3i0-1:1;1-2:1", "3i0-1:1i", "3i0-1:1i1-2:1",
		"3i1-0:1", "3i0-0:1", "3i2-2:0", "3i0-3:1", "3i3-4:1", "3i2-1:1", "3i-1-2:1", "3i0--1:1", "3i0-1:-1", "3i0-1:-0", "3i-0-1:1", "3i0-1:1001", "3i0-1:9999", "3i0-1:10000", "1i0-0:0", "1i0-1:0", "2i0-1:1,0-2:1", "2i0-2:1,0-1:1",
		"3i00-1:1", "3i0-01:1", "3i0-1:01", "3i0-1:00", "3i+0-1:1", "3i0-+1:1", "3i0-1:+1", "3i0-1:+0", "3i0-1:1.0", "3i0-1:1_0", "3i0-1:0x1", "3i0-1:1e1", "3i0:1-1", "3i0-1:1:1", "3i0-1-2:1", "3i0–1:1", "3i0-1:1\n", "3i0-1:1\x00", "3i0-1:\xff",
		"9223372036854775807i", "9223372036854775808i", "18446744073709551619i", "3i0-18446744073709551617:1", "3i0-1:18446744073709551617", "3i0-1:9223372036854775807", "3i0-1:-9223372036854775808", "3i4294967296-1:1",
		"7i" + strings.Repeat("0-6:7,", 14) + "0-6:7", "7i" + strings.Repeat("0-6:7,", 100000) + "0-6:7", strings.Repeat("0", 100000) + "3i", "3i" + strings.Repeat("0", 100000), strings.Repeat("i", 100000), "3i" + strings.Repeat(",", 100000), "3i0-1:" + strings.Repeat("0", 100000) + "1",
	} {
		if _, exists := parsedByHand(text); exists {
			t.Errorf("the case is told wrongly: %.40q", text)
		}
		s, ok := impl.ParseIsles(text)
		wantIsles(t, fmt.Sprintf("ParseIsles %.40q", text), false, impl.Isles{}, s, ok)
	}
}

// noBridges returns bridges that are none for three islands.
func noBridges() []impl.Bridge {
	bridges := []impl.Bridge{
		{A: 0, B: 0, Toll: 1}, {A: 2, B: 2, Toll: 0}, {A: 1, B: 0, Toll: 1}, {A: 2, B: 1, Toll: 1}, {A: 0, B: 3, Toll: 1}, {A: 2, B: 3, Toll: 1}, {A: 3, B: 4, Toll: 1}, {A: -1, B: 1, Toll: 1}, {A: -2, B: -1, Toll: 1}, {A: 1, B: -1, Toll: 1},
		{A: 0, B: 1, Toll: -1}, {A: 0, B: 1, Toll: impl.MaxToll + 1}, {A: 0, B: 1, Toll: math.MinInt}, {A: 0, B: 1, Toll: math.MaxInt}, {A: math.MinInt, B: math.MaxInt, Toll: 1}, {A: math.MinInt, B: 1, Toll: 1}, {A: 0, B: math.MaxInt, Toll: 1}, {},
	}
	for _, n := range oddNumbers {
		bridges = append(bridges, impl.Bridge{A: n, B: n, Toll: 1}, impl.Bridge{A: n, B: 0, Toll: 1})
		if n < 0 || n > 2 {
			bridges = append(bridges, impl.Bridge{A: 0, B: n, Toll: 1}, impl.Bridge{A: n, B: 2, Toll: 1})
		}
	}
	return bridges
}

// noIsles returns isles that are none.
func noIsles() []impl.Isles {
	good := []impl.Bridge{{A: 0, B: 1, Toll: 1}, {A: 1, B: 2, Toll: 1}, {A: 0, B: 2, Toll: 4}}
	all := []impl.Isles{
		{}, {Bridges: good}, {Count: 1, Bridges: good[:1]}, {Count: 2, Bridges: good},
		{Count: 3, Bridges: slices.Repeat(good[:1], impl.MaxBridges+1)}, {Count: impl.MaxIslands, Bridges: slices.Repeat(good, 5)}, {Count: 3, Bridges: slices.Repeat(good, 10000)},
	}
	for _, n := range append(oddNumbers, impl.MaxIslands+1) {
		if n < 1 || n > impl.MaxIslands {
			all = append(all, impl.Isles{Count: n}, impl.Isles{Count: n, Bridges: good})
		}
	}
	for _, b := range noBridges() {
		all = append(all, impl.Isles{Count: 3, Bridges: []impl.Bridge{b}}, impl.Isles{Count: 3, Bridges: append([]impl.Bridge{b}, good...)}, impl.Isles{Count: 3, Bridges: append(slices.Clone(good), b)})
	}
	return all
}

// islandNumbers are the numbers of a call, each in its bounds unless a test sets it otherwise.
type islandNumbers struct {
	from, to, bridge int
	more             impl.Bridge
}

var goodIslandNumbers = islandNumbers{0, 2, 1, impl.Bridge{A: 0, B: 1, Toll: 2}}

// islandCalls returns all calls of chapter 4 that take isles, told by the results that should be zero if it fails.
func islandCalls(s impl.Isles, n islandNumbers) map[string]string {
	told := map[string]string{}
	list := func(name string, a []int, ok bool) {
		if told[name] = fmt.Sprint(a, ok); len(a) == 0 {
			told[name] = fmt.Sprint(0, ok)
		}
	}
	number := func(name string, a int, ok bool) { told[name] = fmt.Sprint(a, ok) }
	two := func(name string, a, b int, ok bool) {
		if told[name] = fmt.Sprint(a, b, ok); a == 0 && b == 0 {
			told[name] = fmt.Sprint(0, ok)
		}
	}
	isles := func(name string, a impl.Isles, ok bool) {
		if told[name] = fmt.Sprint(a, ok); isSameIsles(a, impl.Isles{}) {
			told[name] = fmt.Sprint(0, ok)
		}
	}
	a, ok := impl.GroupOf(s, n.from)
	list("GroupOf", a, ok)
	k, ok := impl.CountGroups(s)
	number("CountGroups", k, ok)
	k, ok = impl.LeastToJoin(s)
	number("LeastToJoin", k, ok)
	a, ok = impl.FirstToJoin(s)
	list("FirstToJoin", a, ok)
	k, ok = impl.CountToJoin(s)
	number("CountToJoin", k, ok)
	a, ok = impl.CutBridges(s)
	list("CutBridges", a, ok)
	a, ok = impl.CutIslands(s)
	list("CutIslands", a, ok)
	k, ok = impl.TollBetween(s, n.from, n.to)
	number("TollBetween", k, ok)
	a, ok = impl.FirstWayOver(s, n.from, n.to)
	list("FirstWayOver", a, ok)
	k, ok = impl.BridgesBetween(s, n.from, n.to)
	number("BridgesBetween", k, ok)
	k, m, ok := impl.FarthestIsland(s, n.from)
	two("FarthestIsland", k, m, ok)
	k, m, ok = impl.CenterIsland(s)
	two("CenterIsland", k, m, ok)
	has, ok := impl.HasRound(s)
	told["HasRound"] = fmt.Sprint(has, ok)
	a, ok = impl.FirstRound(s, n.from)
	list("FirstRound", a, ok)
	more, ok := impl.AddBridge(s, n.more)
	isles("AddBridge", more, ok)
	less, ok := impl.DropBridge(s, n.bridge)
	isles("DropBridge", less, ok)
	text, ok := impl.IslesText(s)
	if told["IslesText"] = fmt.Sprintf("%q %v", text, ok); text == "" {
		told["IslesText"] = fmt.Sprint(0, ok)
	}
	return told
}

const goodIsles = "3i0-1:1,1-2:1,0-2:4"

// Promise 11: isles that are none make all calls fail with zero values.
func TestIslesThatAreNone(t *testing.T) {
	good := islandCalls(islesOf(t, goodIsles), goodIslandNumbers)
	requireFailures(t, goodIsles, good)
	var names []string
	for name := range good {
		names = append(names, name)
	}
	for _, s := range noIsles() {
		what := fmt.Sprintf("%.60s", fmt.Sprint(s))
		if impl.AreIsles(s) {
			t.Error("AreIsles", what)
		}
		requireFailures(t, what, islandCalls(s, goodIslandNumbers), names...)
	}
}

// Promise 11: islands and bridges that are none make the calls with them fail with zero values, and no others.
func TestIslandNumbersOutOfBounds(t *testing.T) {
	s := islesOf(t, goodIsles)
	kinds := []struct {
		name    string
		set     func(n *islandNumbers, to int)
		failing []string
	}{
		{"from", func(n *islandNumbers, to int) { n.from = to }, []string{"GroupOf", "TollBetween", "FirstWayOver", "BridgesBetween", "FarthestIsland", "FirstRound"}},
		{"to", func(n *islandNumbers, to int) { n.to = to }, []string{"TollBetween", "FirstWayOver", "BridgesBetween"}},
		{"from and to", func(n *islandNumbers, to int) { n.from, n.to = to, to }, []string{"GroupOf", "TollBetween", "FirstWayOver", "BridgesBetween", "FarthestIsland", "FirstRound"}},
		{"bridge", func(n *islandNumbers, to int) { n.bridge = to }, []string{"DropBridge"}},
	}
	for _, kind := range kinds {
		for _, to := range append(oddNumbers, 3, 4, 6, 7, 8, 13, 14, 15) {
			n := goodIslandNumbers
			kind.set(&n, to)
			failing := kind.failing
			if 0 <= to && to <= 2 {
				failing = nil
			}
			requireFailures(t, fmt.Sprint(kind.name, " ", to), islandCalls(s, n), failing...)
		}
	}
	for _, b := range noBridges() {
		n := goodIslandNumbers
		n.more = b
		requireFailures(t, fmt.Sprint("more ", b), islandCalls(s, n), "AddBridge")
	}
	for _, toll := range []int{0, 1, impl.MaxToll - 1, impl.MaxToll} {
		n := goodIslandNumbers
		n.more.Toll = toll
		requireFailures(t, fmt.Sprint("more of ", toll), islandCalls(s, n))
	}
}

// Promise 11: isles with and without ways, centers and rounds make just the calls fail for which there are none.
func TestIslandCallsWithoutResults(t *testing.T) {
	cases := []struct {
		text    string
		failing []string
	}{
		{"3i0-1:1,0-1:1", []string{"LeastToJoin", "FirstToJoin", "CountToJoin", "CenterIsland", "TollBetween", "FirstWayOver", "BridgesBetween"}},
		{"3i0-1:1,1-2:1", []string{"FirstRound"}},
		{"4i0-1:1,0-1:1,2-3:1,2-3:1", []string{"LeastToJoin", "FirstToJoin", "CountToJoin", "CenterIsland", "TollBetween", "FirstWayOver", "BridgesBetween", "FirstRound"}},
		{"3i1-2:1,1-2:1", []string{"LeastToJoin", "FirstToJoin", "CountToJoin", "CenterIsland", "TollBetween", "FirstWayOver", "BridgesBetween", "FirstRound"}},
		{"3i0-1:1,1-2:1,0-2:1,0-1:1,1-2:1,0-2:1,0-1:1,1-2:1,0-2:1,0-1:1,1-2:1,0-2:1,1-2:1,1-2:1", []string{"AddBridge"}},
		{"4i", []string{"LeastToJoin", "FirstToJoin", "CountToJoin", "CenterIsland", "TollBetween", "FirstWayOver", "BridgesBetween", "DropBridge"}},
	}
	for _, c := range cases {
		requireFailures(t, c.text, islandCalls(islesOf(t, c.text), goodIslandNumbers), c.failing...)
	}
}

// Promise 11: no call panics, whatever numbers are put together, and no call changes a later one.
func TestIslandCallsAreTotal(t *testing.T) {
	for _, x := range oddNumbers {
		for _, y := range oddNumbers {
			n := islandNumbers{x, y, y, impl.Bridge{A: y, B: x, Toll: y}}
			for _, s := range []impl.Isles{{Count: x}, {Count: x, Bridges: []impl.Bridge{{A: y, B: x, Toll: y}}}, {Count: 3, Bridges: []impl.Bridge{{A: x, B: y, Toll: x}, {A: 0, B: 1, Toll: y}}}, islesOf(t, exampleIsles), islesOf(t, goodIsles)} {
				impl.AreIsles(s)
				first, again := islandCalls(s, n), islandCalls(s, n)
				for name, told := range first {
					if told != again[name] {
						t.Errorf("%s %v %v: %s, then %s", name, s, n, told, again[name])
					}
				}
			}
		}
	}
}

// islesWithRoom returns the same isles, and behind their bridges room that holds others.
func islesWithRoom(s impl.Isles) impl.Isles {
	room := slices.Repeat([]impl.Bridge{{A: 0, B: 1, Toll: 77}}, len(s.Bridges)+4)
	copy(room, s.Bridges)
	return impl.Isles{Count: s.Count, Bridges: room[:len(s.Bridges)]}
}

// areUntouched reports whether isles made by islesWithRoom of others are as they were, with their room.
func areUntouched(given, s impl.Isles) bool {
	room := given.Bridges[:cap(given.Bridges)]
	for _, b := range room[len(given.Bridges):] {
		if b != (impl.Bridge{A: 0, B: 1, Toll: 77}) {
			return false
		}
	}
	return isSameIsles(given, s)
}

// Promise 11: isles stay as they are, and so does the room behind their bridges, and what is in it is not seen.
func TestIslandArgumentsAreNotChanged(t *testing.T) {
	row := &mixedRow{4}
	all := []impl.Isles{islesOf(t, "1i"), islesOf(t, "7i"), islesOf(t, exampleIsles), islesOf(t, goodIsles), {Count: 3, Bridges: []impl.Bridge{{A: 1, B: 0, Toll: 1}}}, {Count: 0, Bridges: []impl.Bridge{{A: 0, B: 1, Toll: 1}}}}
	for range 60 {
		all = append(all, mixedIsles(row, 2+row.next(6), row.next(impl.MaxBridges+1), impl.MaxToll), roundIsles(row, 2+row.next(6), 2+row.next(6)))
	}
	for _, s := range all {
		for from := range 3 {
			given, n := islesWithRoom(s), islandNumbers{from, 1, from, impl.Bridge{A: 0, B: 1, Toll: from}}
			told := islandCalls(given, n)
			impl.AreIsles(given)
			if !areUntouched(given, s) {
				t.Error("a call changes", s)
			}
			for name, want := range islandCalls(impl.Isles{Count: s.Count, Bridges: slices.Clip(slices.Clone(s.Bridges))}, n) {
				if told[name] != want {
					t.Errorf("%s %v with room: %s, want %s", name, s, told[name], want)
				}
			}
		}
	}
}

// Promise 11: a list that is returned is new memory, so that what is written to it is not seen in the next one.
func TestIslandResultsAreNew(t *testing.T) {
	s, round := islesOf(t, exampleIsles), islesOf(t, goodIsles)
	wantNewLists(t, map[string]func() ([]int, bool){
		"GroupOf":      func() ([]int, bool) { return impl.GroupOf(s, 1) },
		"FirstToJoin":  func() ([]int, bool) { return impl.FirstToJoin(s) },
		"CutBridges":   func() ([]int, bool) { return impl.CutBridges(s) },
		"CutIslands":   func() ([]int, bool) { return impl.CutIslands(s) },
		"FirstWayOver": func() ([]int, bool) { return impl.FirstWayOver(s, 0, 3) },
		"FirstRound":   func() ([]int, bool) { return impl.FirstRound(round, 0) },
	})
}

// Promise 11: isles that are returned have bridges of their own, so that what is written to them, and to the room behind them, is seen neither in an argument nor in the next ones.
func TestNewIslesAreNew(t *testing.T) {
	s := islesOf(t, exampleIsles)
	given := islesWithRoom(s)
	calls := map[string]func() (impl.Isles, bool){
		"AddBridge":        func() (impl.Isles, bool) { return impl.AddBridge(given, impl.Bridge{A: 1, B: 3, Toll: 9}) },
		"DropBridge first": func() (impl.Isles, bool) { return impl.DropBridge(given, 0) },
		"DropBridge":       func() (impl.Isles, bool) { return impl.DropBridge(given, 2) },
		"DropBridge last":  func() (impl.Isles, bool) { return impl.DropBridge(given, 3) },
		"ParseIsles":       func() (impl.Isles, bool) { return impl.ParseIsles(exampleIsles) },
	}
	for name, call := range calls {
		first, _ := call()
		kept := impl.Isles{Count: first.Count, Bridges: slices.Clone(first.Bridges)}
		for k := range first.Bridges[:cap(first.Bridges)] {
			first.Bridges[:cap(first.Bridges)][k] = impl.Bridge{A: -99, B: -99, Toll: -99}
		}
		if !areUntouched(given, s) {
			t.Error(name, "hands out an argument")
		}
		again, ok := call()
		wantIsles(t, name, true, kept, again, ok)
	}
}

// Promise 11: a text that is returned is new memory, and isles read from a text are read from that alone.
func TestIslesTextIsNew(t *testing.T) {
	for _, text := range []string{"1i", exampleIsles} {
		given := strings.Clone(text)
		text, ok := impl.IslesText(islesOf(t, given))
		if text != given || !ok || unsafe.StringData(text) == unsafe.StringData(given) {
			t.Errorf("IslesText hands out the text that was read, or another one: %q %v", text, ok)
		}
	}
}
