package tests

import (
	"fmt"
	"math"
	"regexp"
	"slices"
	"strings"
	"testing"
	"unsafe"

	"loop.example/g01352/impl"
)

func clueOf(kind, a, b int) impl.Clue { return impl.Clue{Kind: kind, A: a, B: b} }

func puzzleOf(places int, clues ...impl.Clue) impl.Puzzle {
	return impl.Puzzle{Places: places, Clues: clues}
}

func isSamePuzzle(p, other impl.Puzzle) bool {
	return p.Places == other.Places && slices.Equal(p.Clues, other.Clues)
}

// wantPuzzle requires the puzzle if there is one, and that the call fails otherwise.
func wantPuzzle(t *testing.T, what string, exists bool, want, got impl.Puzzle, ok bool) {
	t.Helper()
	if !exists {
		want = impl.Puzzle{}
	}
	if !isSamePuzzle(want, got) || ok != exists {
		t.Errorf("%s: %v %v, want %v %v", what, got, ok, want, exists)
	}
}

func wantTexts(t *testing.T, what string, want, got []string, ok bool) {
	t.Helper()
	if !slices.Equal(want, got) || !ok {
		t.Errorf("%s: %q %v, want %q", what, got, ok, want)
	}
}

// clueKey tells what a clue asks of a river.
type clueKey struct {
	river   string
	kind, a int
}

// toldBs keeps what clues tell, as crossings are counted one by one.
var toldBs = map[clueKey]int{}

// toldByHand returns the B of the clue with a kind and an A that a river fits.
func toldByHand(river string, kind, a int) int {
	key := clueKey{river, kind, a}
	b, isTold := toldBs[key]
	if !isTold {
		b = lookByHand(river, kind, a)
		toldBs[key] = b
	}
	return b
}

func lookByHand(river string, kind, a int) int {
	switch kind {
	case 0:
		return len(stonesByHand(river))
	case 1:
		return len(strings.TrimLeft(river[a-1:a], "."))
	case 2:
		return max(0, len(fewestByHand(crossingsByHand(river, a)))-1)
	case 3:
		for leap := 1; ; leap++ {
			if len(crossingsByHand(river, leap)) > 0 {
				return leap
			}
		}
	case 4:
		return len(crossingsByHand(river, a))
	}
	// The longest water, with the far bank behind the last one, begins behind the place.
	longest, begins, from := 0, 0, 0
	for place := 1; place <= len(river)+1; place++ {
		if place == len(river)+1 || river[place-1] == 'o' {
			if place-from > longest {
				longest, begins = place-from, from
			}
			from = place
		}
	}
	return begins
}

// clueAsFor returns all As that clues of a kind may have.
func clueAsFor(places, kind int) []int {
	switch kind {
	case 1:
		return []int{1, 2, 3, 4, 5, 6, 7, 8}[:places]
	case 2, 4:
		return []int{1, 2, 3, 4, 5, 6, 7, 8, 9}
	}
	return []int{0}
}

// clueBsFor returns the least and the greatest B that clues of a kind may have.
func clueBsFor(places, kind int) (int, int) {
	switch kind {
	case 1:
		return 0, 1
	case 2:
		return 0, 9
	case 3:
		return 1, 9
	case 4:
		return 0, 256
	}
	return 0, places
}

// cluesFor returns all clues of rivers of so many places whose B is at most this one.
func cluesFor(places, mostB int) []impl.Clue {
	var clues []impl.Clue
	for kind := range 6 {
		least, most := clueBsFor(places, kind)
		for _, a := range clueAsFor(places, kind) {
			for b := least; b <= min(most, mostB); b++ {
				clues = append(clues, clueOf(kind, a, b))
			}
		}
	}
	return clues
}

func isClueByHand(places int, c impl.Clue) bool {
	if places < 1 || places > 8 || c.Kind < 0 || c.Kind > 5 {
		return false
	}
	least, most := clueBsFor(places, c.Kind)
	return slices.Contains(clueAsFor(places, c.Kind), c.A) && least <= c.B && c.B <= most
}

// hiddenOf returns all rivers of so many places in the order of texts.
func hiddenOf(places int) []string {
	var rivers []string
	for _, river := range smallRivers(places) {
		if len(river) == places {
			rivers = append(rivers, river)
		}
	}
	slices.Sort(rivers)
	return rivers
}

func fitsByHand(c impl.Clue, river string) bool { return toldByHand(river, c.Kind, c.A) == c.B }

func solutionsByHand(p impl.Puzzle) []string {
	var solutions []string
	for _, river := range hiddenOf(p.Places) {
		if !slices.ContainsFunc(p.Clues, func(c impl.Clue) bool { return !fitsByHand(c, river) }) {
			solutions = append(solutions, river)
		}
	}
	return solutions
}

func withoutClueByHand(p impl.Puzzle, k int) impl.Puzzle {
	return puzzleOf(p.Places, slices.Delete(slices.Clone(p.Clues), k, k+1)...)
}

func sureByHand(solutions []string) string {
	sure := ""
	for i := range solutions[0] {
		signs := map[byte]bool{}
		for _, river := range solutions {
			signs[river[i]] = true
		}
		if len(signs) == 1 {
			sure += solutions[0][i : i+1]
		} else {
			sure += "?"
		}
	}
	return sure
}

// needlessByHand and the others below count the solutions of each puzzle anew.
func needlessByHand(p impl.Puzzle) []int {
	var needless []int
	for k := range p.Clues {
		if len(solutionsByHand(withoutClueByHand(p, k))) == len(solutionsByHand(p)) {
			needless = append(needless, k)
		}
	}
	return needless
}

func leftByCluesByHand(p impl.Puzzle) []int {
	var left []int
	for many := range len(p.Clues) + 1 {
		left = append(left, len(solutionsByHand(puzzleOf(p.Places, p.Clues[:many]...))))
	}
	return left
}

func bestClueByHand(p impl.Puzzle) int {
	best := firstNumbers(len(p.Clues))
	slices.SortStableFunc(best, func(one, other int) int {
		return len(solutionsByHand(puzzleOf(p.Places, p.Clues[one]))) - len(solutionsByHand(puzzleOf(p.Places, p.Clues[other])))
	})
	return best[0]
}

func harderByHand(p impl.Puzzle) impl.Puzzle {
	for k := 0; k < len(p.Clues); {
		if less := withoutClueByHand(p, k); len(solutionsByHand(less)) == 1 {
			p = less
		} else {
			k++
		}
	}
	return p
}

func puzzleTextByHand(p impl.Puzzle) string {
	text := fmt.Sprintf("%d:", p.Places)
	for k, c := range p.Clues {
		if k > 0 {
			text += ","
		}
		text += fmt.Sprintf("%d.%d.%d", c.Kind, c.A, c.B)
	}
	return text
}

// checkPuzzle compares all that is told of a puzzle.
func checkPuzzle(t *testing.T, p impl.Puzzle) {
	t.Helper()
	what := puzzleTextByHand(p)
	if !impl.IsPuzzle(p) {
		t.Error("IsPuzzle is false of", what)
	}
	solutions := solutionsByHand(p)
	texts, ok := impl.Solutions(p)
	wantTexts(t, "Solutions "+what, solutions, texts, ok)
	n, ok := impl.CountSolutions(p)
	wantInt(t, "CountSolutions "+what, len(solutions), n, ok)
	var first, sure string
	if len(solutions) > 0 {
		first, sure = solutions[0], sureByHand(solutions)
	}
	text, ok := impl.FirstSolution(p)
	wantTextOr(t, "FirstSolution "+what, len(solutions) > 0, first, text, ok)
	text, ok = impl.SureSigns(p)
	wantTextOr(t, "SureSigns "+what, len(solutions) > 0, sure, text, ok)
	solved, ok := impl.IsSolved(p)
	wantBool(t, "IsSolved "+what, len(solutions) == 1, solved, ok)
	checkPuzzleClues(t, what, p)
	checkHarder(t, what, p, solutions)
	text, ok = impl.PuzzleText(p)
	wantText(t, "PuzzleText", what, text, ok)
	read, ok := impl.ParsePuzzle(what)
	wantPuzzle(t, "ParsePuzzle "+what, true, p, read, ok)
}

// checkPuzzleClues compares what is told of the clues, and the puzzles without one.
func checkPuzzleClues(t *testing.T, what string, p impl.Puzzle) {
	t.Helper()
	list, ok := impl.NeedlessClues(p)
	wantList(t, "NeedlessClues "+what, needlessByHand(p), list, ok)
	list, ok = impl.LeftByClues(p)
	wantList(t, "LeftByClues "+what, leftByCluesByHand(p), list, ok)
	best := 0
	if len(p.Clues) > 0 {
		best = bestClueByHand(p)
	}
	n, ok := impl.BestClue(p)
	wantIntOr(t, "BestClue "+what, len(p.Clues) > 0, best, n, ok)
	for k := -1; k <= len(p.Clues); k++ {
		isIndex := 0 <= k && k < len(p.Clues)
		var dropped impl.Puzzle
		if isIndex {
			dropped = withoutClueByHand(p, k)
		}
		less, ok := impl.DropClue(p, k)
		wantPuzzle(t, fmt.Sprint("DropClue ", what, " ", k), isIndex, dropped, less, ok)
	}
}

// checkHarder compares the harder puzzle, which is solved by the same river.
func checkHarder(t *testing.T, what string, p impl.Puzzle, solutions []string) {
	t.Helper()
	var want impl.Puzzle
	if len(solutions) == 1 {
		want = harderByHand(p)
	}
	harder, ok := impl.HarderPuzzle(p)
	wantPuzzle(t, "HarderPuzzle "+what, len(solutions) == 1, want, harder, ok)
	if len(solutions) == 1 {
		texts, ok := impl.Solutions(harder)
		wantTexts(t, "Solutions of HarderPuzzle "+what, solutions, texts, ok)
		list, ok := impl.NeedlessClues(harder)
		wantList(t, "NeedlessClues of HarderPuzzle "+what, nil, list, ok)
	}
}

func checkAddClue(t *testing.T, p impl.Puzzle, c impl.Clue) {
	t.Helper()
	exists := len(p.Clues) < impl.MaxClues && isClueByHand(p.Places, c)
	more, ok := impl.AddClue(p, c)
	wantPuzzle(t, fmt.Sprint("AddClue ", puzzleTextByHand(p), " ", c), exists, puzzleOf(p.Places, append(slices.Clone(p.Clues), c)...), more, ok)
}

func TestPuzzleExample(t *testing.T) {
	p, ok := impl.ParsePuzzle("3:0.0.1,3.0.2")
	wantPuzzle(t, "ParsePuzzle", true, puzzleOf(3, clueOf(0, 0, 1), clueOf(3, 0, 2)), p, ok)
	texts, ok := impl.Solutions(p)
	wantTexts(t, "Solutions", []string{".o."}, texts, ok)
	list, ok := impl.LeftByClues(p)
	wantList(t, "LeftByClues", []int{8, 3, 1}, list, ok)
	p, ok = impl.ParsePuzzle("4:2.2.2")
	wantPuzzle(t, "ParsePuzzle", true, puzzleOf(4, clueOf(2, 2, 2)), p, ok)
	n, ok := impl.CountSolutions(p)
	wantInt(t, "CountSolutions", 0, n, ok)
	p, ok = impl.ParsePuzzle("3:2.2.2")
	wantPuzzle(t, "ParsePuzzle", true, puzzleOf(3, clueOf(2, 2, 2)), p, ok)
	text, ok := impl.SureSigns(p)
	wantText(t, "SureSigns", "?o?", text, ok)
	n, ok = impl.CountCrossings("ooo", 9)
	wantInt(t, "CountCrossings", 8, n, ok)
	fits, ok := impl.DoesFit(clueOf(4, 9, 8), "ooo")
	wantBool(t, "DoesFit", true, fits, ok)
}

// Promise 9: each hidden river fits the clue that tells what is so, and no other one of the same kind and A.
func TestCluesOfAllHiddenRivers(t *testing.T) {
	for _, river := range smallRivers(impl.MaxHidden) {
		for kind := range 6 {
			least, most := clueBsFor(len(river), kind)
			for _, a := range clueAsFor(len(river), kind) {
				b := toldByHand(river, kind, a)
				for _, other := range []int{b - 2, b - 1, b, b + 1, least, most} {
					fits, ok := impl.DoesFit(clueOf(kind, a, other), river)
					if isClue := least <= other && other <= most; ok != isClue || fits != (isClue && other == b) {
						t.Errorf("DoesFit %d.%d.%d %s: %v %v, but B is %d", kind, a, other, river, fits, ok, b)
					}
				}
			}
		}
	}
}

// The least and the greatest clues are told of rivers that are easy to look at.
func TestNamedClues(t *testing.T) {
	for _, c := range []struct {
		kind, a, b int
		river      string
		fits       bool
	}{
		{0, 0, 0, "........", true}, {0, 0, 8, "oooooooo", true}, {0, 0, 8, "ooooooo.", false}, {0, 0, 0, ".", true}, {0, 0, 1, "o", true}, {0, 0, 0, "o", false},
		{1, 1, 1, "o.......", true}, {1, 8, 1, ".......o", true}, {1, 8, 0, "ooooooo.", true}, {1, 1, 0, ".ooooooo", true}, {1, 1, 0, "o", false}, {1, 1, 1, ".", false},
		{2, 1, 9, "oooooooo", true}, {2, 1, 0, "oooooooo", false}, {2, 1, 0, "ooo.oooo", true}, {2, 1, 9, "ooo.oooo", false}, {2, 9, 1, "........", true}, {2, 8, 0, "........", true}, {2, 8, 1, "........", false},
		{3, 0, 9, "........", true}, {3, 0, 1, "oooooooo", true}, {3, 0, 2, ".", true}, {3, 0, 1, ".", false},
		{4, 9, 256, "oooooooo", true}, {4, 9, 1, "........", true}, {4, 8, 0, "........", true}, {4, 8, 255, "oooooooo", true}, {4, 1, 1, "oooooooo", true}, {4, 9, 255, "oooooooo", false},
		{5, 0, 0, "........", true}, {5, 0, 8, "oooooooo", false}, {5, 0, 0, "oooooooo", true}, {5, 0, 6, "oooooo..", true}, {5, 0, 7, "ooooooo.", true}, {5, 0, 0, "....o...", true}, {5, 0, 4, "...o....", true}, {5, 0, 2, "oo.o.oo.", true}, {5, 0, 4, "oo.o.oo.", false},
	} {
		fits, ok := impl.DoesFit(clueOf(c.kind, c.a, c.b), c.river)
		wantBool(t, fmt.Sprintf("DoesFit %d.%d.%d %s", c.kind, c.a, c.b, c.river), c.fits, fits, ok)
	}
}

// smallPuzzles returns all puzzles of so many places with at most two clues whose B is small, and some with three.
func smallPuzzles(places int) []impl.Puzzle {
	clues := cluesFor(places, 4)
	puzzles := []impl.Puzzle{puzzleOf(places)}
	for i := 0; i < len(puzzles); i++ {
		many := len(puzzles[i].Clues)
		for k, c := range clues {
			if many < 2 || many == 2 && (i+k)%701 == 0 {
				puzzles = append(puzzles, puzzleOf(places, append(slices.Clone(puzzles[i].Clues), c)...))
			}
		}
	}
	return puzzles
}

// Promise 9: what is told of small puzzles agrees with the rivers that are looked at one by one.
func TestSmallPuzzles(t *testing.T) {
	for places := 1; places <= 2; places++ {
		for _, p := range smallPuzzles(places) {
			checkPuzzle(t, p)
		}
	}
}

// mixedClue returns a clue that a river fits, or at times one that is off.
func mixedClue(row *mixedRow, river string, off int) impl.Clue {
	kind := row.next(6)
	as := clueAsFor(len(river), kind)
	a := as[row.next(len(as))]
	c := clueOf(kind, a, toldByHand(river, kind, a))
	if row.next(100) < off {
		least, most := clueBsFor(len(river), kind)
		c.B = least + row.next(min(most, 10)-least+1)
	}
	return c
}

func mixedPuzzle(row *mixedRow, places, clues, off int) impl.Puzzle {
	rivers := hiddenOf(places)
	river := rivers[row.next(len(rivers))]
	p := puzzleOf(places)
	for k := range clues {
		if k > 0 && row.next(10) == 0 {
			p.Clues = append(p.Clues, p.Clues[row.next(k)])
			continue
		}
		p.Clues = append(p.Clues, mixedClue(row, river, off))
	}
	return p
}

// Promise 9: puzzles of all numbers of places and clues, with solutions and without.
func TestMixedPuzzles(t *testing.T) {
	row := &mixedRow{19}
	solved, several, none := 0, 0, 0
	for places := 1; places <= impl.MaxHidden; places++ {
		for clues := range impl.MaxClues + 1 {
			for range 8 {
				p := mixedPuzzle(row, places, clues, 5)
				checkPuzzle(t, p)
				checkAddClue(t, p, mixedClue(row, hiddenOf(places)[0], 50))
				switch n := len(solutionsByHand(p)); {
				case n == 0:
					none++
				case n == 1:
					solved++
				default:
					several++
				}
			}
		}
	}
	if solved < 50 || several < 50 || none < 10 {
		t.Error("the puzzles are mixed badly:", solved, several, none)
	}
}

// Promise 9: clues that cannot both be left out are not both taken out, whichever one is first.
func TestHarderPuzzles(t *testing.T) {
	for _, c := range []struct{ text, harder, needless string }{
		{"1:0.0.1", "1:0.0.1", "[]"},
		{"1:1.1.0", "1:1.1.0", "[]"},
		{"3:0.0.1,3.0.2", "3:0.0.1,3.0.2", "[]"},
		{"1:0.0.1,1.1.1", "1:1.1.1", "[0 1]"},
		{"1:1.1.1,0.0.1", "1:0.0.1", "[0 1]"},
		{"1:0.0.1,0.0.1,0.0.1,0.0.1,0.0.1,0.0.1", "1:0.0.1", "[0 1 2 3 4 5]"},
		{"2:1.1.1,1.2.1", "2:1.1.1,1.2.1", "[]"},
		{"2:0.0.2,1.1.1,1.2.1", "2:1.1.1,1.2.1", "[0 1 2]"},
		{"2:1.1.1,1.2.1,0.0.2", "2:0.0.2", "[0 1 2]"},
		{"2:1.1.1,0.0.2,1.2.1", "2:0.0.2", "[0 1 2]"},
		{"2:1.1.1,0.0.1,1.2.0", "2:0.0.1,1.2.0", "[0 1 2]"},
		{"3:1.1.1,1.1.1,1.2.0,1.3.1", "3:1.1.1,1.2.0,1.3.1", "[0 1]"},
		{"8:4.9.256,0.0.8", "8:0.0.8", "[0 1]"},
		{"8:3.0.9,2.8.0,5.0.0", "8:2.8.0", "[0 1 2]"},
		{"3:4.9.8,5.0.0", "3:4.9.8", "[1]"},
		{"3:5.0.0,4.9.8,2.9.1", "3:4.9.8", "[0 2]"},
	} {
		p, ok := impl.ParsePuzzle(c.text)
		harder, fine := impl.HarderPuzzle(p)
		text, _ := impl.PuzzleText(harder)
		wantText(t, "HarderPuzzle "+c.text, c.harder, text, ok && fine)
		list, ok := impl.NeedlessClues(p)
		wantText(t, "NeedlessClues "+c.text, c.needless, fmt.Sprint(list), ok)
		checkPuzzle(t, p)
	}
	for _, text := range []string{"1:", "8:", "3:2.2.2", "4:2.2.2", "2:0.0.1", "1:0.0.0,0.0.1", "2:1.1.0,1.1.1,1.2.0", "8:2.1.9,2.1.0,3.0.9"} {
		p, ok := impl.ParsePuzzle(text)
		harder, fine := impl.HarderPuzzle(p)
		if !ok || fine || !isSamePuzzle(harder, impl.Puzzle{}) {
			t.Errorf("HarderPuzzle %s: %v %v %v", text, harder, ok, fine)
		}
		checkPuzzle(t, p)
	}
}

func TestNamedPuzzles(t *testing.T) {
	for _, c := range []struct {
		text      string
		solutions int
		sure      string
		best      int
		left      string
	}{
		{"1:", 2, "?", -1, "[2]"},
		{"8:", 256, "????????", -1, "[256]"},
		{"1:0.0.0", 1, ".", 0, "[2 1]"},
		{"1:4.1.0", 1, ".", 0, "[2 1]"},
		{"1:4.2.256", 0, "", 0, "[2 0]"},
		{"1:0.0.0,0.0.1", 0, "", 0, "[2 1 0]"},
		{"2:0.0.1", 2, "??", 0, "[4 2]"},
		{"2:0.0.1,0.0.1", 2, "??", 0, "[4 2 2]"},
		{"2:0.0.1,0.0.2,0.0.0", 0, "", 1, "[4 2 0 0]"},
		{"2:1.1.1,0.0.2,3.0.1,1.2.1", 1, "oo", 1, "[4 2 1 1 1]"},
		{"3:2.3.0", 1, "...", 0, "[8 1]"},
		{"3:2.2.0", 3, "?.?", 0, "[8 3]"},
		{"3:5.0.3", 0, "", 0, "[8 0]"},
		{"8:4.9.256", 1, "oooooooo", 0, "[256 1]"},
		{"8:0.0.0,0.0.8", 0, "", 0, "[256 1 0]"},
		{"8:1.1.1,1.2.1,1.3.1,1.4.1,1.5.1,1.6.1", 4, "oooooo??", 0, "[256 128 64 32 16 8 4]"},
		{"8:1.3.0,1.8.1,1.3.0,1.3.0,1.3.0,1.3.0", 64, "??.????o", 0, "[256 128 64 64 64 64 64]"},
		{"8:2.1.0", 255, "????????", 0, "[256 255]"},
		{"8:4.9.3", 0, "", 0, "[256 0]"},
	} {
		p, ok := impl.ParsePuzzle(c.text)
		n, fine := impl.CountSolutions(p)
		wantInt(t, "CountSolutions "+c.text, c.solutions, n, ok && fine)
		text, ok := impl.SureSigns(p)
		wantTextOr(t, "SureSigns "+c.text, c.sure != "", c.sure, text, ok)
		n, ok = impl.BestClue(p)
		wantIntOr(t, "BestClue "+c.text, c.best >= 0, c.best, n, ok)
		list, ok := impl.LeftByClues(p)
		wantText(t, "LeftByClues "+c.text, c.left, fmt.Sprint(list), ok)
		checkPuzzle(t, p)
	}
}

// All rivers of a number of places come in order if there is no clue, and if each clue fits all of them.
func TestPuzzlesThatAllRiversSolve(t *testing.T) {
	for places := 1; places <= impl.MaxHidden; places++ {
		texts, ok := impl.Solutions(puzzleOf(places))
		wantTexts(t, fmt.Sprint("Solutions ", places, ":"), hiddenOf(places), texts, ok)
	}
	for _, p := range []impl.Puzzle{puzzleOf(1, clueOf(5, 0, 0), clueOf(2, 9, 1)), puzzleOf(8, clueOf(2, 9, 1)), puzzleOf(3, slices.Repeat([]impl.Clue{clueOf(2, 4, 1)}, impl.MaxClues)...)} {
		texts, ok := impl.Solutions(p)
		wantTexts(t, "Solutions "+puzzleTextByHand(p), hiddenOf(p.Places), texts, ok)
		checkPuzzle(t, p)
	}
}

// Clues are added behind the others, also one that is there, up to MaxClues, and dropping the last one leads back.
func TestCluesAreAddedAndDropped(t *testing.T) {
	row := &mixedRow{21}
	for places := 1; places <= impl.MaxHidden; places++ {
		p := puzzleOf(places)
		for range impl.MaxClues {
			c := mixedClue(row, hiddenOf(places)[0], 50)
			checkAddClue(t, p, c)
			more, ok := impl.AddClue(p, c)
			back, fine := impl.DropClue(more, len(p.Clues))
			wantPuzzle(t, "DropClue behind AddClue", true, p, back, ok && fine)
			p = more
			checkAddClue(t, p, c)
		}
		for _, c := range p.Clues {
			more, ok := impl.AddClue(p, c)
			wantPuzzle(t, "AddClue beyond MaxClues", false, impl.Puzzle{}, more, ok)
		}
	}
}

// madeByHand follows the rule with which puzzles are made.
func madeByHand(river string, clues, seed int) impl.Puzzle {
	var zs []int
	for z := seed; len(zs) < 2*clues; {
		z = (z*251 + 1609) % 10007
		zs = append(zs, z)
	}
	p := puzzleOf(len(river))
	for k := range clues {
		kind, y := zs[2*k]%6, zs[2*k+1]
		a := []int{0, y%len(river) + 1, y%9 + 1, 0, y%9 + 1, 0}[kind]
		p.Clues = append(p.Clues, clueOf(kind, a, toldByHand(river, kind, a)))
	}
	return p
}

// Promise 9: puzzles are made by the rule, and the river is a solution.
func TestMadePuzzles(t *testing.T) {
	check := func(river string, clues, seed int) {
		t.Helper()
		what := fmt.Sprint("MakePuzzle ", river, " ", clues, " ", seed)
		p, ok := impl.MakePuzzle(river, clues, seed)
		wantPuzzle(t, what, true, madeByHand(river, clues, seed), p, ok)
		for _, c := range p.Clues {
			fits, ok := impl.DoesFit(c, river)
			wantBool(t, "DoesFit "+what, true, fits, ok)
		}
	}
	for i, river := range smallRivers(impl.MaxHidden) {
		for clues := range impl.MaxClues + 1 {
			for _, seed := range []int{0, 1, 9999, 9998, 1609, (i*7919 + clues) % 10000} {
				check(river, clues, seed)
			}
		}
	}
	for seed := range 10000 {
		check([]string{"o", ".", "o.o..o.o", "..o.", "oooooooo", ".o..oo."}[seed%6], impl.MaxClues, seed)
	}
}

// These were worked out with pen and paper: behind 0 come 1609, of the kind 1, and 5188; behind 9999 come 9608, of the kind 2, and 1530.
func TestNamedMadePuzzles(t *testing.T) {
	for _, c := range []struct {
		river       string
		clues, seed int
		text        string
	}{
		{"o", 0, 0, "1:"}, {"........", 0, 9999, "8:"},
		{"o", 1, 0, "1:1.1.1"}, {".o", 1, 0, "2:1.1.0"}, {"...", 1, 0, "3:1.2.0"}, {"....o...", 1, 0, "8:1.5.1"},
		{"ooo", 1, 1, "3:0.0.3"}, {"o.o", 1, 9999, "3:2.1.0"}, {"ooo", 1, 9999, "3:2.1.4"},
	} {
		p, ok := impl.MakePuzzle(c.river, c.clues, c.seed)
		text, fine := impl.PuzzleText(p)
		wantText(t, fmt.Sprint("MakePuzzle ", c.river, " ", c.clues, " ", c.seed), c.text, text, ok && fine)
	}
}

// Promise 9: a made puzzle is a puzzle that the river solves, and its text is read back.
func TestMadePuzzlesAreSolved(t *testing.T) {
	for seed := 0; seed < 10000; seed += 101 {
		for _, river := range []string{"o", ".", "o.o..o.o", "..o.", "oooooooo", "........", ".o..oo."} {
			p, ok := impl.MakePuzzle(river, seed%7, seed)
			texts, fine := impl.Solutions(p)
			if !ok || !fine || !slices.Contains(texts, river) {
				t.Error("MakePuzzle", river, seed, "is not solved by its river:", texts)
			}
			text, ok := impl.PuzzleText(p)
			read, fine := impl.ParsePuzzle(text)
			wantPuzzle(t, "ParsePuzzle "+text, true, p, read, ok && fine)
		}
	}
	for _, seed := range []int{0, 9999} {
		for _, clues := range []int{0, 3, impl.MaxClues} {
			for _, river := range []string{"o", "o.o..o.o"} {
				p, _ := impl.MakePuzzle(river, clues, seed)
				checkPuzzle(t, p)
			}
		}
	}
}

// Promise 11: clues are told from others by the bounds for each kind and number of places.
func TestNumbersThatAreClues(t *testing.T) {
	numbers := append(oddNumbers, -9, -7, 3, 4, 5, 6, 7, 8, 9, 10, 11, 255, 256, 257, 1<<32+1)
	for _, places := range numbers {
		for _, kind := range []int{math.MinInt, -6, -1, 0, 1, 2, 3, 4, 5, 6, 7, 1 << 32, math.MaxInt} {
			for _, a := range numbers {
				for _, b := range numbers {
					c := clueOf(kind, a, b)
					if impl.IsClue(places, c) != isClueByHand(places, c) {
						t.Error("IsClue", places, c, "is not", isClueByHand(places, c))
					}
				}
			}
		}
	}
	for places := 1; places <= impl.MaxHidden; places++ {
		for _, c := range cluesFor(places, 256) {
			if !impl.IsClue(places, c) || !impl.IsPuzzle(puzzleOf(places, c)) {
				t.Error("IsClue is false of", places, c)
			}
		}
	}
}

// noClues returns what is no clue of rivers of three places.
func noClues() []impl.Clue {
	clues := []impl.Clue{
		{Kind: -1, A: 0, B: 1}, {Kind: 6, A: 0, B: 1}, {Kind: 6, A: 1, B: 1}, {Kind: math.MaxInt, A: 1, B: 1}, {Kind: math.MinInt, A: 1, B: 1},
		{Kind: 0, A: 1, B: 1}, {Kind: 0, A: -1, B: 1}, {Kind: 0, A: 0, B: -1}, {Kind: 0, A: 0, B: 4},
		{Kind: 1, A: 0, B: 1}, {Kind: 1, A: 4, B: 1}, {Kind: 1, A: 1, B: -1}, {Kind: 1, A: 1, B: 2}, {Kind: 1, A: -1, B: 0},
		{Kind: 2, A: 0, B: 1}, {Kind: 2, A: 10, B: 1}, {Kind: 2, A: 1, B: -1}, {Kind: 2, A: 1, B: 10},
		{Kind: 3, A: 1, B: 1}, {Kind: 3, A: -1, B: 1}, {Kind: 3, A: 0, B: 0}, {Kind: 3, A: 0, B: 10}, {Kind: 3, A: 0, B: -1},
		{Kind: 4, A: 0, B: 1}, {Kind: 4, A: 10, B: 1}, {Kind: 4, A: 1, B: -1}, {Kind: 4, A: 1, B: 257},
		{Kind: 5, A: 1, B: 1}, {Kind: 5, A: -1, B: 1}, {Kind: 5, A: 0, B: -1}, {Kind: 5, A: 0, B: 4},
	}
	for kind := range 6 {
		for _, n := range []int{math.MinInt, -1000, 1000, 1 << 32, math.MaxInt} {
			clues = append(clues, clueOf(kind, n, 1), clueOf(kind, 1, n), clueOf(kind, 0, n), clueOf(kind, n, n))
		}
	}
	return clues
}

// noPuzzles returns puzzles that are none.
func noPuzzles() []impl.Puzzle {
	good := []impl.Clue{clueOf(0, 0, 1), clueOf(3, 0, 2)}
	puzzles := []impl.Puzzle{
		{}, {Clues: good}, puzzleOf(3, slices.Repeat(good[:1], impl.MaxClues+1)...), puzzleOf(3, slices.Repeat(good, 10000)...),
		puzzleOf(3, clueOf(0, 0, 4)), puzzleOf(2, clueOf(1, 3, 0)), puzzleOf(7, clueOf(5, 0, 8)), puzzleOf(1, clueOf(0, 0, 2)), puzzleOf(7, clueOf(1, 8, 1)),
	}
	for _, n := range append(oddNumbers, 9, 10) {
		if n < 1 || n > impl.MaxHidden {
			puzzles = append(puzzles, puzzleOf(n), puzzleOf(n, good...))
		}
	}
	for _, c := range noClues() {
		puzzles = append(puzzles, puzzleOf(3, c), puzzleOf(3, append([]impl.Clue{c}, good...)...), puzzleOf(3, append(slices.Clone(good), c)...), puzzleOf(3, append(slices.Repeat(good[:1], impl.MaxClues-1), c)...))
	}
	return puzzles
}

func noHiddenRivers() []string {
	return append(noRivers(), strings.Repeat("o", impl.MaxHidden+1), strings.Repeat(".", impl.MaxHidden+1), strings.Repeat("o", impl.MaxRiver), "o.?", ".o.\n", "ooooooooo.")
}

// puzzleNumbers are what calls are given beside a puzzle, each in its bounds unless a test sets it otherwise.
type puzzleNumbers struct {
	index       int
	more        impl.Clue
	river       string
	clues, seed int
}

func goodPuzzleNumbers() puzzleNumbers { return puzzleNumbers{1, clueOf(5, 0, 2), ".o.", 3, 77} }

// puzzleCalls returns all calls of chapter 9 but the questions for kinds and ParsePuzzle, told by the results that should be zero if it fails.
func puzzleCalls(p impl.Puzzle, n puzzleNumbers) map[string]string {
	told := map[string]string{}
	tell := func(name string, isZero, ok bool, result any) {
		if told[name] = fmt.Sprint(result, " ", ok); isZero {
			told[name] = fmt.Sprint(0, ok)
		}
	}
	number := func(name string, k int, ok bool) { tell(name, k == 0, ok, k) }
	text := func(name, s string, ok bool) { tell(name, s == "", ok, s) }
	list := func(name string, l []int, ok bool) { tell(name, len(l) == 0, ok, l) }
	truth := func(name string, is, ok bool) { tell(name, !is, ok, is) }
	puzzle := func(name string, q impl.Puzzle, ok bool) { tell(name, isSamePuzzle(q, impl.Puzzle{}), ok, q) }
	texts, ok := impl.Solutions(p)
	tell("Solutions", len(texts) == 0, ok, texts)
	k, ok := impl.CountSolutions(p)
	number("CountSolutions", k, ok)
	s, ok := impl.FirstSolution(p)
	text("FirstSolution", s, ok)
	s, ok = impl.SureSigns(p)
	text("SureSigns", s, ok)
	is, ok := impl.IsSolved(p)
	truth("IsSolved", is, ok)
	l, ok := impl.NeedlessClues(p)
	list("NeedlessClues", l, ok)
	q, ok := impl.DropClue(p, n.index)
	puzzle("DropClue", q, ok)
	q, ok = impl.AddClue(p, n.more)
	puzzle("AddClue", q, ok)
	l, ok = impl.LeftByClues(p)
	list("LeftByClues", l, ok)
	k, ok = impl.BestClue(p)
	number("BestClue", k, ok)
	q, ok = impl.HarderPuzzle(p)
	puzzle("HarderPuzzle", q, ok)
	s, ok = impl.PuzzleText(p)
	text("PuzzleText", s, ok)
	is, ok = impl.DoesFit(n.more, n.river)
	truth("DoesFit", is, ok)
	q, ok = impl.MakePuzzle(n.river, n.clues, n.seed)
	puzzle("MakePuzzle", q, ok)
	return told
}

func goodPuzzle() impl.Puzzle { return puzzleOf(3, clueOf(0, 0, 1), clueOf(3, 0, 2)) }

// Promise 11: puzzles that are none make all calls with them fail with zero values, and no others.
func TestPuzzlesThatAreNone(t *testing.T) {
	good := puzzleCalls(goodPuzzle(), goodPuzzleNumbers())
	requireFailures(t, "a good puzzle", good)
	var names []string
	for name := range good {
		if name != "DoesFit" && name != "MakePuzzle" {
			names = append(names, name)
		}
	}
	for _, p := range noPuzzles() {
		what := fmt.Sprintf("%.60s", fmt.Sprint(p))
		if impl.IsPuzzle(p) {
			t.Error("IsPuzzle", what)
		}
		for _, index := range []int{0, 1} {
			n := goodPuzzleNumbers()
			n.index = index
			requireFailures(t, what, puzzleCalls(p, n), names...)
		}
	}
}

// Promise 11: clues that are none make the calls with them fail with zero values, and no others.
func TestCluesThatAreNone(t *testing.T) {
	for _, c := range noClues() {
		if impl.IsClue(3, c) {
			t.Error("IsClue", c)
		}
		n := goodPuzzleNumbers()
		n.more = c
		requireFailures(t, fmt.Sprint("clue ", c), puzzleCalls(goodPuzzle(), n), "DoesFit", "AddClue")
	}
	// The same clue is one of longer rivers alone.
	for _, c := range []impl.Clue{clueOf(0, 0, 4), clueOf(1, 4, 0), clueOf(5, 0, 4)} {
		n := goodPuzzleNumbers()
		n.more = c
		requireFailures(t, fmt.Sprint("clue ", c), puzzleCalls(goodPuzzle(), n), "DoesFit", "AddClue")
		n.river = "...."
		requireFailures(t, fmt.Sprint("clue ", c, " with its river"), puzzleCalls(goodPuzzle(), n), "AddClue")
	}
}

// Promise 11: texts that are no hidden rivers make the calls with them fail with zero values, and no others.
func TestRiversThatAreNotHidden(t *testing.T) {
	for _, river := range noHiddenRivers() {
		for _, c := range []impl.Clue{clueOf(0, 0, 1), clueOf(1, 1, 1), clueOf(2, 1, 1), clueOf(3, 0, 1), clueOf(4, 1, 0), clueOf(5, 0, 0)} {
			for clues := range 2 {
				n := puzzleNumbers{0, c, river, clues, 0}
				requireFailures(t, fmt.Sprintf("river %.40q", river), puzzleCalls(goodPuzzle(), n), "DoesFit", "MakePuzzle")
			}
		}
	}
}

// Promise 11: numbers out of their bounds make the calls with them fail with zero values, and no others.
func TestPuzzleNumbersOutOfBounds(t *testing.T) {
	full := puzzleOf(1, slices.Repeat([]impl.Clue{clueOf(0, 0, 1)}, impl.MaxClues)...)
	kinds := []struct {
		name        string
		least, most int
		set         func(n *puzzleNumbers, to int)
		failing     string
	}{
		{"an index", 0, 1, func(n *puzzleNumbers, to int) { n.index = to }, "DropClue"},
		{"clues", 0, impl.MaxClues, func(n *puzzleNumbers, to int) { n.clues = to }, "MakePuzzle"},
		{"a seed", 0, 9999, func(n *puzzleNumbers, to int) { n.seed = to }, "MakePuzzle"},
	}
	for _, kind := range kinds {
		for _, to := range append(oddNumbers, -7, -6, 3, 5, 6, 7, 8, 9998, 9999, 10000, 10001, 10006, 10007, 10008, 1<<32+1) {
			n := goodPuzzleNumbers()
			kind.set(&n, to)
			var failing []string
			if to < kind.least || to > kind.most {
				failing = append(failing, kind.failing)
			}
			requireFailures(t, fmt.Sprint(kind.name, " ", to), puzzleCalls(goodPuzzle(), n), failing...)
		}
	}
	for index := -2; index <= impl.MaxClues+1; index++ {
		failing := []string{"AddClue"}
		if index < 0 || index >= impl.MaxClues {
			failing = append(failing, "DropClue")
		}
		n := puzzleNumbers{index, clueOf(0, 0, 1), "o", 1, 1}
		requireFailures(t, fmt.Sprint("index ", index, " of a full puzzle"), puzzleCalls(full, n), failing...)
		requireFailures(t, fmt.Sprint("index ", index, " without clues"), puzzleCalls(puzzleOf(1), n), "DropClue", "BestClue", "HarderPuzzle")
	}
}

// Promise 11: a puzzle without solutions makes the calls fail that tell of one, with zero values, and no others.
func TestPuzzlesWithoutSolutions(t *testing.T) {
	for many := 1; many <= impl.MaxClues; many++ {
		p := puzzleOf(4, slices.Repeat([]impl.Clue{clueOf(2, 2, 2)}, many)...)
		for index := -1; index <= many; index++ {
			failing := []string{"FirstSolution", "SureSigns", "HarderPuzzle"}
			if index < 0 || index == many {
				failing = append(failing, "DropClue")
			}
			if many == impl.MaxClues {
				failing = append(failing, "AddClue")
			}
			n := puzzleNumbers{index, clueOf(0, 0, 1), "o", 1, 1}
			requireFailures(t, fmt.Sprint("no solution, ", many, " clues, index ", index), puzzleCalls(p, n), failing...)
		}
	}
}

var puzzlePattern = regexp.MustCompile(`^([0-9]+):([0-9]+\.[0-9]+\.[0-9]+(,[0-9]+\.[0-9]+\.[0-9]+){0,5})?$`)

// readByHand reads the numbers of a text one by one.
func readByHand(text string) (impl.Puzzle, bool) {
	if !puzzlePattern.MatchString(text) || strings.HasSuffix(text, "\n") {
		return impl.Puzzle{}, false
	}
	var numbers []int
	for _, word := range strings.FieldsFunc(text, func(sign rune) bool { return sign < '0' || sign > '9' }) {
		var n int
		if _, err := fmt.Sscan(word, &n); err != nil || fmt.Sprint(n) != word {
			return impl.Puzzle{}, false
		}
		numbers = append(numbers, n)
	}
	p := puzzleOf(numbers[0])
	for i := 1; i < len(numbers); i += 3 {
		c := clueOf(numbers[i], numbers[i+1], numbers[i+2])
		if !isClueByHand(p.Places, c) {
			return impl.Puzzle{}, false
		}
		p.Clues = append(p.Clues, c)
	}
	return p, 1 <= p.Places && p.Places <= impl.MaxHidden
}

func checkRead(t *testing.T, text string) {
	t.Helper()
	want, exists := readByHand(text)
	p, ok := impl.ParsePuzzle(text)
	wantPuzzle(t, fmt.Sprintf("ParsePuzzle %q", text), exists, want, p, ok)
}

func TestChangedTextsOfPuzzles(t *testing.T) {
	for _, text := range []string{"1:", "8:", "3:0.0.1", "3:0.0.1,3.0.2", "3:2.2.2", "8:4.9.256,1.8.0,2.9.9,2.1.0,5.0.8,3.0.9", "1:0.0.0,0.0.0,0.0.0,0.0.0,0.0.0"} {
		checkRead(t, text)
		for _, changed := range changedTexts(text) {
			checkRead(t, changed)
		}
	}
	for _, text := range changedTexts("2:1.1.1") {
		for _, changed := range changedTexts(text) {
			checkRead(t, changed)
		}
	}
}

// Promise 11: texts that tell no puzzle make ParsePuzzle fail with no puzzle.
func TestTextsThatAreNoPuzzles(t *testing.T) {
	for _, text := range []string{
		"", ":", "3", "0", "0:", "9:", "10:", "-1:", "+3:", "03:", "00:", " 3:", "3 :", "3: ", "3:\n", "3::", ":3", "3;", "٣:", "３:", "a:", "3:3:", "o:",
		"3:0", "3:0.", "3:0.0", "3:0.0.", "3:.0.1", "3:0..1", "3:..", "3:.", "3:0.0.1.", "3:.0.0.1", "3:0.0.1.0", "3:0.0.1,", "3:,0.0.1", "3:,", "3:,,", "3:0.0.1,,3.0.2", "3:0.0.1,3.0", "3:0.0.1,3.0.2.", "3:0.0.1,3.0.2,", "3:0.0.1 3.0.2", "3:0.0.1, 3.0.2", "3:0.0.1;3.0.2", "3:0.0.1:3.0.2", "0.0.1",
		"3:-1.0.1", "3:6.0.1", "3:6.1.1", "3:0.1.1", "3:0.-1.1", "3:0.0.-1", "3:0.0.4", "3:1.0.1", "3:1.4.1", "3:1.1.-1", "3:1.1.2", "3:2.0.1", "3:2.10.1", "3:2.1.-1", "3:2.1.10", "3:3.1.1", "3:3.0.0", "3:3.0.10", "3:4.0.1", "3:4.10.1", "3:4.1.-1", "3:4.1.257", "3:5.1.1", "3:5.0.-1", "3:5.0.4",
		"3:00.0.1", "3:0.00.1", "3:0.0.01", "3:+0.0.1", "3:0.+0.1", "3:0.0.+1", "3:-0.0.1", "3:0.-0.1", "3:0.0.-0", "3:0.0.1_0", "3:0.0.0x1", "3:0.0.1e0", "3:0.0.1\n", "3:0.0.1\x00", "3:0.0.\xff", "3: 0.0.1", "3:0 .0.1", "3:0.0.1 ",
		"18446744073709551619:", "9223372036854775807:", "9223372036854775808:", "3:18446744073709551616.0.1", "3:0.18446744073709551616.1", "3:0.0.18446744073709551617", "3:0.0.9223372036854775807", "3:0.0.-9223372036854775808", "3:4294967296.0.1",
		"3:0.0.1,0.0.1,0.0.1,0.0.1,0.0.1,0.0.1,0.0.1", "3:" + strings.Repeat("0.0.1,", 100000) + "0.0.1", strings.Repeat("0", 100000) + "3:", "3:0.0." + strings.Repeat("0", 100000) + "1", "3:" + strings.Repeat(",", 100000), "3:" + strings.Repeat(".", 100000), strings.Repeat(":", 100000), strings.Repeat("9", 100000),
	} {
		if _, exists := readByHand(text); exists {
			t.Errorf("the case is told wrongly: %.40q", text)
		}
		p, ok := impl.ParsePuzzle(text)
		wantPuzzle(t, fmt.Sprintf("ParsePuzzle %.40q", text), false, impl.Puzzle{}, p, ok)
	}
}

// Promise 11: no call panics, whatever is put together, and no call changes a later one.
func TestPuzzleCallsAreTotal(t *testing.T) {
	rivers := append(noHiddenRivers(), "o", ".", "o.o..o.o", "........", ".o.")
	for i, x := range oddNumbers {
		for k, y := range oddNumbers {
			n := puzzleNumbers{x, clueOf(k%8-1, x, y), rivers[(5*i+k)%len(rivers)], y, x}
			for _, p := range []impl.Puzzle{puzzleOf(x, clueOf(k%8-1, y, x)), puzzleOf(3, clueOf(i%6, x, y)), puzzleOf(2, clueOf(x, y, 1)), puzzleOf(k%10, clueOf(i%6, 0, k%4), clueOf(k%6, i%10, k%7)), goodPuzzle()} {
				is := impl.IsPuzzle(p)
				first, again := puzzleCalls(p, n), puzzleCalls(p, n)
				for name, told := range first {
					if told != again[name] {
						t.Errorf("%s %v %v: %s, then %s", name, p, n, told, again[name])
					}
				}
				if fails := isFailure(first["PuzzleText"]); is == fails || is != impl.IsPuzzle(p) {
					t.Error("IsPuzzle", p, is)
				}
			}
		}
	}
}

// puzzleWithRoom returns the same puzzle with room behind the clues that holds 77s.
func puzzleWithRoom(p impl.Puzzle) impl.Puzzle {
	room := slices.Repeat([]impl.Clue{clueOf(77, 77, 77)}, len(p.Clues)+4)
	copy(room, p.Clues)
	p.Clues = room[:len(p.Clues)]
	return p
}

// isUntouchedPuzzle reports whether a puzzle made by puzzleWithRoom of another one is as it was, with its room.
func isUntouchedPuzzle(given, p impl.Puzzle) bool {
	for _, c := range given.Clues[len(given.Clues):cap(given.Clues)] {
		if c != clueOf(77, 77, 77) {
			return false
		}
	}
	return isSamePuzzle(given, p)
}

// Promise 11: clues stay as they are, and so does the room behind them.
func TestPuzzleArgumentsAreNotChanged(t *testing.T) {
	row := &mixedRow{22}
	puzzles := append(noPuzzles()[:9], goodPuzzle(), puzzleOf(1), puzzleOf(8), puzzleOf(3, clueOf(6, 0, 0)))
	for range 60 {
		puzzles = append(puzzles, mixedPuzzle(row, 1+row.next(8), row.next(impl.MaxClues+1), 10))
	}
	for _, p := range puzzles {
		for index := range 3 {
			n := goodPuzzleNumbers()
			n.index, n.more = index, clueOf(0, 0, index%2)
			given := puzzleWithRoom(p)
			told := puzzleCalls(given, n)
			impl.IsPuzzle(given)
			if !isUntouchedPuzzle(given, p) {
				t.Error("a call changes", p)
			}
			for name, want := range puzzleCalls(impl.Puzzle{Places: p.Places, Clues: slices.Clip(slices.Clone(p.Clues))}, n) {
				if told[name] != want {
					t.Errorf("%s %v with room: %s, want %s", name, p, told[name], want)
				}
			}
		}
	}
}

// Promise 11: lists that are returned are new memory.
func TestPuzzleResultsAreNew(t *testing.T) {
	p := puzzleOf(2, clueOf(1, 1, 1), clueOf(1, 2, 1), clueOf(0, 0, 2))
	wantNewLists(t, map[string]func() ([]int, bool){
		"NeedlessClues": func() ([]int, bool) { return impl.NeedlessClues(p) },
		"LeftByClues":   func() ([]int, bool) { return impl.LeftByClues(p) },
	})
	first, _ := impl.Solutions(puzzleOf(3))
	for i := range first[:cap(first)] {
		first[:cap(first)][i] = "x"
	}
	again, ok := impl.Solutions(puzzleOf(3))
	wantTexts(t, "Solutions", hiddenOf(3), again, ok)
}

// Promise 11: puzzles that are returned have clues of their own, so that what is written to them, and to the room behind them, is seen neither in an argument nor in the next ones.
func TestNewPuzzlesAreNew(t *testing.T) {
	p := puzzleOf(2, clueOf(1, 1, 1), clueOf(1, 2, 1), clueOf(0, 0, 2))
	needed := puzzleOf(2, clueOf(1, 1, 1), clueOf(1, 2, 1))
	one := puzzleOf(1, clueOf(0, 0, 1))
	given, givenNeeded, givenOne := puzzleWithRoom(p), puzzleWithRoom(needed), puzzleWithRoom(one)
	full := impl.Puzzle{Places: 2, Clues: slices.Clip(slices.Clone(p.Clues))}
	calls := map[string]func() (impl.Puzzle, bool){
		"AddClue":                    func() (impl.Puzzle, bool) { return impl.AddClue(given, clueOf(3, 0, 1)) },
		"AddClue without room":       func() (impl.Puzzle, bool) { return impl.AddClue(full, clueOf(3, 0, 1)) },
		"DropClue first":             func() (impl.Puzzle, bool) { return impl.DropClue(given, 0) },
		"DropClue":                   func() (impl.Puzzle, bool) { return impl.DropClue(given, 1) },
		"DropClue last":              func() (impl.Puzzle, bool) { return impl.DropClue(given, 2) },
		"DropClue, the one":          func() (impl.Puzzle, bool) { return impl.DropClue(givenOne, 0) },
		"HarderPuzzle":               func() (impl.Puzzle, bool) { return impl.HarderPuzzle(given) },
		"HarderPuzzle, no clue less": func() (impl.Puzzle, bool) { return impl.HarderPuzzle(givenNeeded) },
		"HarderPuzzle of one clue":   func() (impl.Puzzle, bool) { return impl.HarderPuzzle(givenOne) },
		"MakePuzzle":                 func() (impl.Puzzle, bool) { return impl.MakePuzzle("o.o", 6, 5) },
		"ParsePuzzle":                func() (impl.Puzzle, bool) { return impl.ParsePuzzle("3:0.0.1,3.0.2") },
	}
	for name, call := range calls {
		first, _ := call()
		kept := impl.Puzzle{Places: first.Places, Clues: slices.Clone(first.Clues)}
		for k := range first.Clues[:cap(first.Clues)] {
			first.Clues[:cap(first.Clues)][k] = clueOf(-99, -99, -99)
		}
		if !isUntouchedPuzzle(given, p) || !isUntouchedPuzzle(givenNeeded, needed) || !isUntouchedPuzzle(givenOne, one) || !isSamePuzzle(full, p) {
			t.Error(name, "hands out an argument")
		}
		again, ok := call()
		wantPuzzle(t, name, true, kept, again, ok)
	}
}

// Promise 11: texts that are returned are new memory, and a puzzle read from a text is read from that alone.
func TestPuzzleTextsAreNew(t *testing.T) {
	for _, text := range []string{"1:", "8:", "3:0.0.1,3.0.2"} {
		given := strings.Clone(text)
		p, _ := impl.ParsePuzzle(given)
		told, ok := impl.PuzzleText(p)
		if told != text || given != text || !ok || unsafe.StringData(told) == unsafe.StringData(given) {
			t.Errorf("PuzzleText hands out the text that was read, or another one: %q %v", told, ok)
		}
	}
}
