package tests

import (
	"fmt"
	"math"
	"regexp"
	"slices"
	"strings"
	"testing"
	"unsafe"

	"loop.example/g01352/impl"
)

func deskOf(t *testing.T, river, pond, isles string, order ...int) impl.Desk {
	t.Helper()
	return impl.Desk{River: river, Pond: pond, Isles: islesOf(t, isles), Order: order}
}

func firstDeskByHand() impl.Desk {
	bridges := []impl.Bridge{{A: 0, B: 1, Toll: 3}, {A: 1, B: 2, Toll: 2}, {A: 0, B: 2, Toll: 4}, {A: 2, B: 3, Toll: 5}}
	return impl.Desk{River: ".o..o", Pond: "rr.ll", Isles: impl.Isles{Count: 4, Bridges: bridges}, Order: []int{3, 1, 2}}
}

func isSameDesk(d, other impl.Desk) bool {
	return d.River == other.River && d.Pond == other.Pond && isSameIsles(d.Isles, other.Isles) && slices.Equal(d.Order, other.Order)
}

// wantDesk requires the desk if there is one, and that the call fails otherwise.
func wantDesk(t *testing.T, what string, exists bool, want, got impl.Desk, ok bool) {
	t.Helper()
	if !exists {
		want = impl.Desk{}
	}
	if !isSameDesk(want, got) || ok != exists {
		t.Errorf("%s: %v %v, want %v %v", what, got, ok, want, exists)
	}
}

// lineWords are what the words of a line say.
type lineWords struct {
	text    string
	isles   impl.Isles
	corner  impl.Corner
	order   []int
	numbers []int
}

var wordPatterns = map[string]*regexp.Regexp{
	"R": regexp.MustCompile(`^[.o]{1,40}$`),
	"P": regexp.MustCompile(`^[.rl]{1,9}$`),
	"G": regexp.MustCompile(`^[.rl]{1,9}$`),
	"I": islesPattern,
	"C": regexp.MustCompile(`^([1-9][0-9]?|100)x([1-9][0-9]?|100)$`),
	"O": regexp.MustCompile(`^[1-8](-[1-8]){0,7}$`),
	"N": regexp.MustCompile(`^(0|[1-9][0-9]{0,5})$`),
	"K": regexp.MustCompile(`^(0|[1-9][0-9]{0,5})$`),
}

// read reads a word of a kind, and reports whether it is one.
func (w *lineWords) read(kind, word string) bool {
	if !wordPatterns[kind].MatchString(word) {
		return false
	}
	ok := true
	switch kind {
	case "R", "P", "G":
		w.text = word
	case "I":
		w.isles, ok = parsedByHand(word)
	case "C":
		fmt.Sscanf(word, "%dx%d", &w.corner.Wide, &w.corner.Deep)
	case "O":
		for i := 0; i < len(word); i += 2 {
			w.order = append(w.order, int(word[i]-'0'))
		}
		ok = isOrderByHand(w.order)
	default:
		var n int
		fmt.Sscan(word, &n)
		w.numbers = append(w.numbers, n)
	}
	return ok
}

// consoleLine is a line of the document's table: the call that tells the reply, or the one that changes the desk and what of it is the reply.
type consoleLine struct {
	form   string
	ask    func(d impl.Desk, w lineWords) (any, bool)
	change func(d *impl.Desk, w lineWords) bool
	shown  string
}

func changesRiver(form string, change func(river string, w lineWords) (string, bool)) consoleLine {
	return consoleLine{form: form, shown: "show", change: func(d *impl.Desk, w lineWords) (ok bool) {
		d.River, ok = change(d.River, w)
		return ok
	}}
}

func changesPond(form string, change func(pond string, w lineWords) (string, bool)) consoleLine {
	return consoleLine{form: form, shown: "frogs", change: func(d *impl.Desk, w lineWords) (ok bool) {
		d.Pond, ok = change(d.Pond, w)
		return ok
	}}
}

func changesIsles(form string, change func(s impl.Isles, w lineWords) (impl.Isles, bool)) consoleLine {
	return consoleLine{form: form, shown: "map", change: func(d *impl.Desk, w lineWords) (ok bool) {
		d.Isles, ok = change(d.Isles, w)
		return ok
	}}
}

func changesOrder(form string, change func(order []int, w lineWords) ([]int, bool)) consoleLine {
	return consoleLine{form: form, shown: "list", change: func(d *impl.Desk, w lineWords) (ok bool) {
		d.Order, ok = change(d.Order, w)
		return ok
	}}
}

func asks(form string, ask func(d impl.Desk, w lineWords) (any, bool)) consoleLine {
	return consoleLine{form: form, ask: ask}
}

// consoleLines are all lines of the document's table, with the calls that they name.
var consoleLines = []consoleLine{
	changesRiver("river R", func(_ string, w lineWords) (string, bool) { return w.text, true }),
	changesPond("pond P", func(_ string, w lineWords) (string, bool) { return w.text, true }),
	changesIsles("isles I", func(_ impl.Isles, w lineWords) (impl.Isles, bool) { return w.isles, true }),
	changesOrder("order O", func(_ []int, w lineWords) ([]int, bool) { return w.order, true }),
	changesRiver("stone N", func(river string, w lineWords) (string, bool) { return impl.PutStone(river, w.numbers[0]) }),
	changesRiver("mirror", func(river string, _ lineWords) (string, bool) { return impl.MirrorRiver(river) }),
	changesPond("hop N", func(pond string, w lineWords) (string, bool) { return impl.MoveFrog(pond, w.numbers[0]) }),
	changesPond("turn", func(pond string, _ lineWords) (string, bool) { return impl.TurnPond(pond) }),
	changesIsles("cut N", func(s impl.Isles, w lineWords) (impl.Isles, bool) { return impl.DropBridge(s, w.numbers[0]) }),
	changesOrder("swap N K", func(order []int, w lineWords) ([]int, bool) {
		return impl.SwapBoats(order, w.numbers[0], w.numbers[1])
	}),
	asks("show", func(d impl.Desk, _ lineWords) (any, bool) { return d.River, true }),
	asks("frogs", func(d impl.Desk, _ lineWords) (any, bool) { return d.Pond, true }),
	asks("map", func(d impl.Desk, _ lineWords) (any, bool) { return textByHand(d.Isles), true }),
	asks("list", func(d impl.Desk, _ lineWords) (any, bool) { return orderTextByHand(d.Order), true }),
	asks("leaps N", func(d impl.Desk, w lineWords) (any, bool) { return impl.FewestLeaps(d.River, w.numbers[0]) }),
	asks("cross N", func(d impl.Desk, w lineWords) (any, bool) { return impl.FirstCrossing(d.River, w.numbers[0]) }),
	asks("ways N", func(d impl.Desk, w lineWords) (any, bool) { return impl.CountCrossings(d.River, w.numbers[0]) }),
	asks("least", func(d impl.Desk, _ lineWords) (any, bool) { return impl.LeastLeap(d.River) }),
	asks("gap", func(d impl.Desk, _ lineWords) (any, bool) {
		length, begins, ok := impl.LongestGap(d.River)
		return fmt.Sprint(length, " ", begins), ok
	}),
	asks("moves", func(d impl.Desk, _ lineWords) (any, bool) { return impl.FrogMoves(d.Pond) }),
	asks("stuck", func(d impl.Desk, _ lineWords) (any, bool) { return impl.ShortestStuck(d.Pond) }),
	asks("play", func(d impl.Desk, _ lineWords) (any, bool) { return impl.LongestFrogPlay(d.Pond) }),
	asks("goal G", func(d impl.Desk, w lineWords) (any, bool) { return impl.FirstFrogMoves(d.Pond, w.text) }),
	asks("join", func(d impl.Desk, _ lineWords) (any, bool) { return impl.LeastToJoin(d.Isles) }),
	asks("bridges", func(d impl.Desk, _ lineWords) (any, bool) { return impl.FirstToJoin(d.Isles) }),
	asks("cuts", func(d impl.Desk, _ lineWords) (any, bool) { return impl.CutIslands(d.Isles) }),
	asks("toll N K", func(d impl.Desk, w lineWords) (any, bool) {
		return impl.TollBetween(d.Isles, w.numbers[0], w.numbers[1])
	}),
	asks("way N K", func(d impl.Desk, w lineWords) (any, bool) {
		return impl.FirstWayOver(d.Isles, w.numbers[0], w.numbers[1])
	}),
	asks("round N", func(d impl.Desk, w lineWords) (any, bool) { return impl.FirstRound(d.Isles, w.numbers[0]) }),
	asks("plank C", func(_ impl.Desk, w lineWords) (any, bool) { return impl.LeastPlank(w.corner) }),
	asks("spots C N", func(_ impl.Desk, w lineWords) (any, bool) { return impl.SpotsFor(w.corner, w.numbers[0]) }),
	asks("lean N", func(_ impl.Desk, w lineWords) (any, bool) { return impl.WholeLeans(w.numbers[0]) }),
	asks("cycles", func(d impl.Desk, _ lineWords) (any, bool) { return impl.CyclesOfOrder(d.Order) }),
	asks("swaps", func(d impl.Desk, _ lineWords) (any, bool) { return impl.FirstSwaps(d.Order) }),
	asks("steps", func(d impl.Desk, _ lineWords) (any, bool) { return impl.FirstNeighbourSwaps(d.Order) }),
	asks("rank", func(d impl.Desk, _ lineWords) (any, bool) { return impl.RankOfOrder(d.Order) }),
	asks("home", func(d impl.Desk, _ lineWords) (any, bool) { return impl.RoundsHome(d.Order) }),
}

// formsThatFail are the lines whose calls fail for some words, or on some desks.
var formsThatFail = []string{"stone N", "hop N", "cut N", "swap N K", "leaps N", "cross N", "ways N", "goal G", "join", "bridges", "toll N K", "way N K", "round N", "spots C N", "lean N"}

func numbersByHand(numbers []int, between string) string {
	return strings.Trim(strings.ReplaceAll(fmt.Sprint(numbers), " ", between), "[]")
}

func orderTextByHand(order []int) string { return numbersByHand(order, "-") }

// replyByHand tells a result.
func replyByHand(result any) string {
	text := ""
	switch told := result.(type) {
	case []int:
		text = numbersByHand(told, ",")
	case [][]int:
		for _, row := range told {
			text += " " + numbersByHand(row, ",")
		}
		text = strings.TrimPrefix(text, " ")
	default:
		text = fmt.Sprint(told)
	}
	if text == "" {
		return "-"
	}
	return text
}

// wordsByHand reads the words of a line that should look like a form.
func wordsByHand(form, line string) (lineWords, bool) {
	var w lineWords
	kinds, words := strings.Split(form, " "), strings.Split(line, " ")
	if len(kinds) != len(words) || kinds[0] != words[0] {
		return w, false
	}
	for i := 1; i < len(kinds); i++ {
		if !w.read(kinds[i], words[i]) {
			return w, false
		}
	}
	return w, true
}

// lineByHand returns the desk behind a line, and the reply, by the call that the line names.
func lineByHand(d impl.Desk, line string) (impl.Desk, string) {
	for _, kind := range consoleLines {
		w, ok := wordsByHand(kind.form, line)
		if !ok {
			continue
		}
		if kind.change == nil {
			result, ok := kind.ask(d, w)
			if !ok {
				return d, "no"
			}
			return d, replyByHand(result)
		}
		behind := d
		if !kind.change(&behind, w) {
			return d, "no"
		}
		_, shown := lineByHand(behind, kind.shown)
		return behind, shown
	}
	return d, "what"
}

// checkLine compares what a line does with the call that it names, and returns the reply.
func checkLine(t *testing.T, d impl.Desk, line string) string {
	t.Helper()
	want, reply := lineByHand(d, line)
	got, told, ok := impl.DeskLine(d, line)
	what := fmt.Sprintf("DeskLine %.80s %.80q", fmt.Sprint(d), line)
	wantDesk(t, what, true, want, got, ok)
	wantText(t, what, reply, told, ok)
	if !impl.IsDesk(got) {
		t.Error(what, "leads to no desk:", got)
	}
	return reply
}

// scriptByHand returns the desk behind lines, the replies, and the numbers of those lines that failed.
func scriptByHand(lines []string) (impl.Desk, []string, []int) {
	d := firstDeskByHand()
	var replies []string
	var failed []int
	for i, line := range lines {
		var reply string
		d, reply = lineByHand(d, line)
		replies = append(replies, reply)
		if reply == "no" || reply == "what" {
			failed = append(failed, i+1)
		}
	}
	return d, replies, failed
}

func scriptOf(lines ...string) string {
	script := ""
	for _, line := range lines {
		script += line + "\n"
	}
	return script
}

// checkScript compares what a script does with its lines one by one.
func checkScript(t *testing.T, lines ...string) {
	t.Helper()
	d, replies, failed := scriptByHand(lines)
	script := scriptOf(lines...)
	what := fmt.Sprintf("%.200q", script)
	texts, ok := impl.RunScript(script)
	wantTexts(t, "RunScript "+what, replies, texts, ok)
	got, ok := impl.DeskAfter(script)
	wantDesk(t, "DeskAfter "+what, true, d, got, ok)
	list, ok := impl.FailedLines(script)
	wantList(t, "FailedLines "+what, failed, list, ok)
}

// wantNoScript requires that all calls with a script fail with zero values.
func wantNoScript(t *testing.T, script string) {
	t.Helper()
	what := fmt.Sprintf("%.80q of %d bytes", script, len(script))
	if replies, ok := impl.RunScript(script); ok || len(replies) > 0 {
		t.Error("RunScript", what, replies, ok)
	}
	d, ok := impl.DeskAfter(script)
	wantDesk(t, "DeskAfter "+what, false, impl.Desk{}, d, ok)
	list, ok := impl.FailedLines(script)
	wantListOr(t, "FailedLines "+what, false, nil, list, ok)
}

// exampleReplies are the lines of the document's example with their replies.
var exampleReplies = [][2]string{
	{"leaps 3", "3"}, {"cross 4", "0,2,6"}, {"ways 4", "2"}, {"leaps 2", "no"}, {"least", "3"}, {"gap", "3 2"}, {"stone 4", ".o.oo"}, {"leaps 2", "3"}, {"stone 4", "no"},
	{"moves", "1,3"}, {"stuck", "1,0"}, {"goal ll.rr", "1,3,4,2,0,1,3,2"}, {"hop 1", "r.rll"}, {"hop 1", "no"},
	{"join", "10"}, {"bridges", "0,1,3"}, {"cuts", "2"}, {"toll 0 3", "9"}, {"way 0 3", "0,2,3"}, {"round 0", "no"}, {"cut 3", "4i0-1:3,1-2:2,0-2:4"}, {"round 0", "0,1,2"},
	{"plank 3x3", "3"}, {"spots 3x3 3", "2,2"}, {"lean 25", "7,24 15,20"},
	{"cycles", "0,2,1"}, {"swaps", "0,1 1,2"}, {"rank", "4"}, {"swap 0 1", "1-3-2"}, {"steps", "1"}, {"order 1-3", "what"}, {"fly", "what"},
}

// Promise 10: the example of the chapter.
func TestConsoleExample(t *testing.T) {
	var lines, replies []string
	d := impl.FirstDesk()
	for _, line := range exampleReplies {
		lines, replies = append(lines, line[0]), append(replies, line[1])
		behind, reply, ok := impl.DeskLine(d, line[0])
		wantText(t, "DeskLine "+line[0], line[1], reply, ok)
		d = behind
	}
	last := deskOf(t, ".o.oo", "r.rll", "4i0-1:3,1-2:2,0-2:4", 1, 3, 2)
	wantDesk(t, "DeskLine behind all lines", true, last, d, true)
	texts, ok := impl.RunScript(scriptOf(lines...))
	wantTexts(t, "RunScript", replies, texts, ok)
	after, ok := impl.DeskAfter(scriptOf(lines...))
	wantDesk(t, "DeskAfter", true, last, after, ok)
	failed, ok := impl.FailedLines(scriptOf(lines...))
	wantList(t, "FailedLines", []int{4, 9, 14, 20, 31, 32}, failed, ok)
	checkScript(t, lines...)
}

func TestFirstDesk(t *testing.T) {
	d := impl.FirstDesk()
	wantDesk(t, "FirstDesk", true, firstDeskByHand(), d, impl.IsDesk(d))
	wantDesk(t, "FirstDesk", true, deskOf(t, ".o..o", "rr.ll", "4i0-1:3,1-2:2,0-2:4,2-3:5", 3, 1, 2), d, true)
}

// namedReplies are lines, one on each desk that the lines before have left, with replies that were worked out with pen and paper. All lines of the table are among them.
var namedReplies = [][2]string{
	// The first desk is shown, and asked.
	{"show", ".o..o"}, {"frogs", "rr.ll"}, {"map", exampleIsles}, {"list", "3-1-2"},
	{"leaps 3", "3"}, {"leaps 4", "2"}, {"leaps 6", "1"}, {"leaps 50", "1"}, {"leaps 2", "no"}, {"leaps 0", "no"}, {"leaps 51", "no"}, {"leaps 999999", "no"},
	{"cross 3", "0,2,5,6"}, {"cross 4", "0,2,6"}, {"cross 50", "0,6"}, {"cross 2", "no"}, {"cross 0", "no"}, {"cross 51", "no"},
	{"ways 3", "1"}, {"ways 4", "2"}, {"ways 6", "4"}, {"ways 2", "0"}, {"ways 0", "no"}, {"ways 51", "no"},
	{"least", "3"}, {"gap", "3 2"},
	{"moves", "1,3"}, {"stuck", "1,0"}, {"play", "1,3,4,2,0,1,3,2"},
	{"goal ll.rr", "1,3,4,2,0,1,3,2"}, {"goal rr.ll", "-"}, {"goal r.rll", "1"}, {"goal lr.rl", "3,1,0,2"}, {"goal .....", "no"}, {"goal rrr.l", "no"}, {"goal r.l", "no"}, {"goal rr.ll.", "no"},
	{"join", "10"}, {"bridges", "0,1,3"}, {"cuts", "2"},
	{"toll 0 3", "9"}, {"toll 3 0", "9"}, {"toll 0 0", "0"}, {"toll 0 4", "no"}, {"toll 4 0", "no"}, {"toll 0 999999", "no"},
	{"way 0 3", "0,2,3"}, {"way 3 0", "3,2,0"}, {"way 1 1", "1"}, {"way 0 4", "no"}, {"way 4 0", "no"},
	{"round 0", "no"}, {"round 4", "no"},
	{"cycles", "0,2,1"}, {"swaps", "0,1 1,2"}, {"steps", "0,1"}, {"rank", "4"}, {"home", "3"},
	// Nothing of the desk is asked.
	{"plank 3x3", "3"}, {"plank 1x1", "2"},
	{"spots 3x3 3", "2,2"}, {"spots 3x3 2", "-"}, {"spots 1x1 2", "1,1"}, {"spots 1x1 1", "-"}, {"spots 3x3 0", "no"}, {"spots 3x3 201", "no"}, {"spots 1x1 200", "no"},
	{"lean 25", "7,24 15,20"}, {"lean 5", "3,4"}, {"lean 1", "-"}, {"lean 200", "56,192 120,160"}, {"lean 0", "no"}, {"lean 201", "no"}, {"lean 999999", "no"},
	// Each field is changed, and none if a call fails.
	{"stone 0", "no"}, {"stone 6", "no"}, {"stone 2", "no"}, {"stone 999999", "no"}, {"show", ".o..o"}, {"stone 1", "oo..o"}, {"stone 4", "oo.oo"}, {"show", "oo.oo"}, {"leaps 2", "3"},
	{"river .oo", ".oo"}, {"mirror", "oo."}, {"show", "oo."}, {"mirror", ".oo"},
	{"hop 0", "no"}, {"hop 2", "no"}, {"hop 5", "no"}, {"hop 999999", "no"}, {"frogs", "rr.ll"}, {"turn", "rr.ll"}, {"hop 3", "rrl.l"}, {"frogs", "rrl.l"}, {"turn", "r.rll"}, {"moves", "0,3"},
	{"cut 4", "no"}, {"cut 999999", "no"}, {"map", exampleIsles}, {"cut 0", "4i1-2:2,0-2:4,2-3:5"}, {"cuts", "2"}, {"cut 2", "4i1-2:2,0-2:4"}, {"join", "no"}, {"bridges", "no"}, {"cuts", "2"}, {"toll 0 3", "no"}, {"way 3 0", "no"}, {"toll 1 0", "6"},
	{"swap 0 0", "no"}, {"swap 0 3", "no"}, {"swap 3 0", "no"}, {"swap 0 999999", "no"}, {"list", "3-1-2"}, {"swap 0 2", "2-1-3"}, {"swap 1 0", "1-2-3"}, {"swaps", "-"}, {"steps", "-"}, {"cycles", "0 1 2"}, {"rank", "0"}, {"home", "1"},
	// A river without stones, and the shortest and the longest ones.
	{"river .", "."}, {"leaps 1", "no"}, {"leaps 2", "1"}, {"cross 2", "0,2"}, {"ways 1", "0"}, {"ways 2", "1"}, {"least", "2"}, {"gap", "2 0"}, {"mirror", "."}, {"stone 1", "o"}, {"stone 1", "no"}, {"least", "1"}, {"gap", "1 0"}, {"ways 1", "1"}, {"ways 2", "2"},
	{"river ........................................", "........................................"}, {"leaps 40", "no"}, {"leaps 41", "1"}, {"least", "41"}, {"gap", "41 0"}, {"stone 40", ".......................................o"}, {"mirror", "o......................................."}, {"gap", "40 1"},
	{"river oooooooooooooooooooooooooooooooooooooooo", "oooooooooooooooooooooooooooooooooooooooo"}, {"leaps 1", "41"}, {"ways 50", "1099511627776"}, {"ways 1", "1"}, {"stone 7", "no"},
	// Ponds without frogs, and others.
	{"pond .", "."}, {"moves", "-"}, {"stuck", "-"}, {"play", "-"}, {"goal .", "-"}, {"goal r", "no"}, {"hop 0", "no"}, {"turn", "."},
	{"pond .........", "........."}, {"moves", "-"}, {"play", "-"}, {"goal .........", "-"}, {"goal .", "no"}, {"hop 8", "no"}, {"hop 9", "no"},
	{"pond r.l", "r.l"}, {"moves", "0,2"}, {"stuck", "0,2,1"}, {"play", "0,2,1"}, {"goal l.r", "0,2,1"}, {"hop 0", ".rl"}, {"hop 2", "lr."}, {"turn", ".lr"}, {"hop 1", "l.r"}, {"stuck", "-"}, {"goal r.l", "no"}, {"goal l.r", "-"},
	// One island, islands without a bridge, and several bridges between two.
	{"isles 1i", "1i"}, {"map", "1i"}, {"join", "0"}, {"bridges", "-"}, {"cuts", "-"}, {"toll 0 0", "0"}, {"way 0 0", "0"}, {"round 0", "-"}, {"round 1", "no"}, {"cut 0", "no"},
	{"isles 7i", "7i"}, {"map", "7i"}, {"join", "no"}, {"bridges", "no"}, {"cuts", "-"}, {"toll 0 6", "no"}, {"way 0 6", "no"}, {"toll 6 6", "0"}, {"way 6 6", "6"}, {"round 6", "-"}, {"round 7", "no"},
	{"isles 2i0-1:0,0-1:1000", "2i0-1:0,0-1:1000"}, {"join", "0"}, {"bridges", "0"}, {"toll 1 0", "0"}, {"way 1 0", "1,0"}, {"round 1", "0,1"}, {"cut 0", "2i0-1:1000"}, {"join", "1000"}, {"round 1", "no"}, {"cut 0", "2i"}, {"cut 0", "no"}, {"round 1", "-"},
	// Orders of one boat and of MaxBoats.
	{"order 1", "1"}, {"list", "1"}, {"cycles", "0"}, {"swaps", "-"}, {"steps", "-"}, {"rank", "0"}, {"home", "1"}, {"swap 0 0", "no"}, {"swap 0 1", "no"},
	{"order 8-7-6-5-4-3-2-1", "8-7-6-5-4-3-2-1"}, {"cycles", "0,7 1,6 2,5 3,4"}, {"swaps", "0,7 1,6 2,5 3,4"}, {"rank", "40319"}, {"home", "2"}, {"swap 7 0", "1-7-6-5-4-3-2-8"}, {"list", "1-7-6-5-4-3-2-8"},
	{"order 2-3-1-5-6-7-8-4", "2-3-1-5-6-7-8-4"}, {"home", "15"}, {"cycles", "0,1,2 3,4,5,6,7"}, {"order 2-1", "2-1"}, {"list", "2-1"}, {"swap 0 1", "1-2"}, {"swap 0 2", "no"},
	// All fields are as they were left.
	{"show", "oooooooooooooooooooooooooooooooooooooooo"}, {"frogs", "l.r"}, {"map", "2i"}, {"list", "1-2"},
}

// Promise 10: replies that were worked out by hand, one line behind the other.
func TestNamedReplies(t *testing.T) {
	d := impl.FirstDesk()
	for _, line := range namedReplies {
		checkLine(t, d, line[0])
		behind, reply, ok := impl.DeskLine(d, line[0])
		wantText(t, "DeskLine "+line[0], line[1], reply, ok)
		if reply == "no" {
			wantDesk(t, "DeskLine "+line[0]+" that fails", true, d, behind, ok)
		}
		d = behind
	}
	for first := 0; first < len(namedReplies); first += 25 {
		// Each script begins with the first desk again.
		var lines []string
		for _, line := range namedReplies[first:min(first+impl.MaxLines, len(namedReplies))] {
			lines = append(lines, line[0])
		}
		checkScript(t, lines...)
	}
	for _, kind := range consoleLines {
		word, _, _ := strings.Cut(kind.form, " ")
		isNamed := slices.ContainsFunc(namedReplies, func(line [2]string) bool { return strings.Fields(line[0])[0] == word && line[1] != "no" })
		hasFailed := slices.ContainsFunc(namedReplies, func(line [2]string) bool { return strings.Fields(line[0])[0] == word && line[1] == "no" })
		if !isNamed || hasFailed != slices.Contains(formsThatFail, kind.form) {
			t.Error("a reply to", kind.form, "is missing")
		}
	}
}

// edgeDesks returns desks with fields at the edges of what they may be.
func edgeDesks(t *testing.T) []impl.Desk {
	return []impl.Desk{
		firstDeskByHand(),
		deskOf(t, ".", ".", "1i", 1),
		deskOf(t, "o", "r", "7i", 2, 1),
		deskOf(t, strings.Repeat("o", impl.MaxRiver), "rrrr.llll", "7i"+strings.Repeat("0-6:7,", 13)+"0-6:7", 8, 7, 6, 5, 4, 3, 2, 1),
		deskOf(t, strings.Repeat(".", impl.MaxRiver), ".........", "7i0-1:1,1-2:2,2-3:3,3-4:4,4-5:5,5-6:6,0-6:1000,0-2:0,2-4:0,0-4:0", 1, 2, 3, 4, 5, 6, 7, 8),
		deskOf(t, "o.o..o.o", "rlrlrlrlr", "2i0-1:0,0-1:1000", 2, 3, 1, 5, 6, 7, 8, 4),
		deskOf(t, "...oo..", "r.l", "3i0-1:1,1-2:1,0-2:1", 1, 3, 2),
		deskOf(t, strings.Repeat("o.", impl.MaxRiver/2), "l.r", "5i1-3:10,0-4:999", 4, 3, 5, 6, 2, 7, 8, 1),
	}
}

func mixedDesk(row *mixedRow) impl.Desk {
	var d impl.Desk
	for range 1 + row.next(impl.MaxRiver) {
		d.River += string(".ooo"[row.next(4)])
	}
	for range 1 + row.next(impl.MaxPond) {
		d.Pond += string(".rl."[row.next(4)])
	}
	d.Isles = mixedIsles(row, 2+row.next(5), row.next(9), 9)
	d.Order = mixedOrder(row, 1+row.next(impl.MaxBoats))
	return d
}

// goodWords returns words of a kind.
func goodWords(kind string) []string {
	switch kind {
	case "R":
		return []string{".", "o", ".o", "o.o..o", strings.Repeat("o", impl.MaxRiver), strings.Repeat(".", impl.MaxRiver)}
	case "P", "G":
		return []string{".", "r", "l", "r.l", "l.r", "ll.rr", "rr.ll", "rrl.l", "llll.rrrr", "........."}
	case "I":
		return []string{"1i", "7i", "2i0-1:0", "3i0-1:10,0-2:1000", exampleIsles, "7i" + strings.Repeat("0-6:7,", 13) + "0-6:7"}
	case "C":
		return []string{"1x1", "3x3", "1x100", "100x1", "17x29", "100x100"}
	case "O":
		return []string{"1", "1-2", "2-1", "3-1-2", "1-2-3-4-5-6-7-8", "8-7-6-5-4-3-2-1", "2-3-1-5-6-7-8-4"}
	}
	return []string{"0", "1", "2", "3", "4", "5", "6", "7", "8", "9", "13", "40", "41", "50", "51", "200", "201", "999999"}
}

// linesOfForm returns all lines of a form with words that may be told for the other ones.
func linesOfForm(form string, wordsFor func(kind string) []string) []string {
	kinds := strings.Split(form, " ")
	lines := kinds[:1]
	for _, kind := range kinds[1:] {
		var longer []string
		for _, line := range lines {
			for _, word := range wordsFor(kind) {
				longer = append(longer, line+" "+word)
			}
		}
		lines = longer
	}
	return lines
}

// Promise 10: each line of the table does what the call does that it names, on many desks and with many words.
func TestLinesOfTheTable(t *testing.T) {
	desks := edgeDesks(t)
	row := &mixedRow{23}
	for range 16 {
		desks = append(desks, mixedDesk(row))
	}
	for _, kind := range consoleLines {
		replies := map[string]int{}
		for _, d := range desks {
			for _, line := range linesOfForm(kind.form, goodWords) {
				replies[checkLine(t, d, line)]++
			}
		}
		fails := replies["no"] > 0
		if replies["what"] > 0 || fails != slices.Contains(formsThatFail, kind.form) || fails && len(replies) < 2 {
			t.Error("the replies to", kind.form, "are told badly:", len(replies), replies["no"], replies["what"])
		}
	}
}

// noWords returns words that are none of a kind. None has a blank in it: such a word is two.
func noWords(kind string) []string {
	switch kind {
	case "R":
		return slices.DeleteFunc(append(noRivers(), "rr.ll", "3", "-"), isSeveralWords)
	case "P", "G":
		return slices.DeleteFunc(append(noPonds(), ".o..o", "3", "-"), isSeveralWords)
	case "I":
		return []string{"", "0i", "8i", "i", "1", "4", "4I", "01i", "+1i", "1i,", "1i0-1:1", "2i1-0:1", "2i0-0:1", "2i0-2:1", "2i0-1", "2i0-1:", "2i0-1:01", "2i0-1:1001", "2i0-1:-1", "2i0-1:1,", "2i,0-1:1", "2i0-1:1;0-1:1", "2i00-1:1", "2i0--1:1", "7i" + strings.Repeat("0-6:7,", 14) + "0-6:7", "4ix", strings.Repeat("1", 2000) + "i"}
	case "C":
		return []string{"", "x", "3", "3x", "x3", "3X3", "3x3x3", "03x3", "3x03", "+3x3", "3x-3", "0x3", "3x0", "101x3", "3x101", "3x3.", "3,3", "3-3", "999999x999999", strings.Repeat("9", 100) + "x3"}
	case "O":
		return []string{"", "-", "0", "2", "9", "-1", "1-", "-1-2", "1-2-", "1--2", "1-1", "2-2", "1-3", "1-2-2", "3-1-3", "2-3", "0-1", "0-1-2", "01", "1-02", "01-2", "+1", "1-+2", "1,2", "1.2", "12", "1-2-3-4-5-6-7-8-9", "9-8-7-6-5-4-3-2-1", "1-2-3-4-5-6-7-8-8", "1-2-3-4-5-6-7-9", "1-2\t", "a", "1-a", "1-2-3x", "1--1", "1-18446744073709551618", "4294967297-2", "257-2", strings.Repeat("1-", 1400) + "1"}
	}
	return []string{"", "-", "-1", "-0", "+0", "+1", "00", "01", "007", "0000001", "000000", "1000000", "1000001", "9999999", "4294967297", "9223372036854775807", "9223372036854775808", "18446744073709551617", strings.Repeat("9", 100), strings.Repeat("0", 2000), "1.0", "1e1", "0x1", "1_0", "1,0", "a", "N", "3x3", "\t1", "1\t", "1\r", "\x001", "1\xff", "１", "٣", "²"}
}

func isSeveralWords(word string) bool {
	return strings.ContainsAny(word, " \n") || len(word) > impl.MaxScript-10
}

// wantWhat requires that a line is not known, and changes nothing.
func wantWhat(t *testing.T, d impl.Desk, line string) {
	t.Helper()
	got, reply, ok := impl.DeskLine(d, line)
	what := fmt.Sprintf("DeskLine %.80q", line)
	wantDesk(t, what, true, d, got, ok)
	wantText(t, what, "what", reply, ok)
}

// Promise 10: a word that is none of its kind makes the reply what, wherever it is, and changes nothing.
func TestWordsThatAreNone(t *testing.T) {
	for _, d := range edgeDesks(t) {
		for _, kind := range consoleLines {
			kinds := strings.Split(kind.form, " ")
			for none := 1; none < len(kinds); none++ {
				for _, word := range noWords(kinds[none]) {
					words := []string{kinds[0]}
					for i := 1; i < len(kinds); i++ {
						words = append(words, goodWords(kinds[i])[1])
					}
					words[none] = word
					line := strings.Join(words, " ")
					wantWhat(t, d, line)
					checkLine(t, d, line)
				}
			}
		}
	}
}

// A call that would fail is not asked if another word is none: the reply is what, not no.
func TestWordsThatAreNoneBesideOthersThatFail(t *testing.T) {
	d := firstDeskByHand()
	for _, line := range []string{"swap 9 x", "swap x 9", "swap 0 00", "toll 9 01", "toll -1 9", "way 9 1000000", "way +9 0", "spots 3x3 x", "spots x 0", "spots 0x3 0", "spots 3x3 -1", "leaps 0 0", "round 9 9", "stone 0 1", "hop", "cut", "lean"} {
		wantWhat(t, d, line)
	}
	for _, line := range []string{"swap 9 0", "swap 0 9", "swap 0 0", "toll 9 0", "way 9 0", "spots 3x3 0", "leaps 0", "round 9", "stone 0", "hop 9", "cut 9", "lean 0"} {
		got, reply, ok := impl.DeskLine(d, line)
		wantText(t, "DeskLine "+line, "no", reply, ok)
		wantDesk(t, "DeskLine "+line, true, d, got, ok)
	}
}

// Promise 10: lines with too many words or too few, with blanks that are too many, and in capitals are not known.
func TestLinesThatAreNotKnown(t *testing.T) {
	d := firstDeskByHand()
	for _, kind := range consoleLines {
		line := linesOfForm(kind.form, func(kind string) []string { return goodWords(kind)[1:2] })[0]
		words := strings.Split(line, " ")
		lines := []string{
			" " + line, line + " ", "  " + line, line + "  ", " " + line + " ", "\t" + line, line + "\t", line + "\r", line + "\x00", line + ";", "\xff" + line,
			strings.ToUpper(line), strings.ToUpper(line[:1]) + line[1:], line + " " + line, line + " 0", line + " 1 1", line + " o", line + " x", words[0] + "s" + line[len(words[0]):], line[1:],
		}
		for i := range words {
			lines = append(lines, strings.Join(slices.Delete(slices.Clone(words), i, i+1), " "), strings.Join(slices.Insert(slices.Clone(words), i, ""), " "), strings.Join(slices.Insert(slices.Clone(words), i, words[i]), " "))
		}
		if len(words) > 1 {
			lines = append(lines, strings.ReplaceAll(line, " ", "  "), strings.ReplaceAll(line, " ", "\t"), strings.ReplaceAll(line, " ", ""), strings.ReplaceAll(line, " ", "\u00a0"), words[0], words[0]+" ")
		}
		for _, other := range lines {
			// Another word of the table may come out, such as ways.
			if _, reply := lineByHand(d, other); reply == "what" {
				wantWhat(t, d, other)
			}
			checkLine(t, d, other)
		}
	}
	for _, line := range []string{"", " ", "  ", strings.Repeat(" ", 100), strings.Repeat(" ", impl.MaxScript), "\t", "\r", "\x00", "-", "0", "1", "no", "what", "fly", "river", "pond", "isles", "order", "rivers .o", "mirror 1", "show show", "N", "R", "help", "quit", ".o..o", "rr.ll", exampleIsles, "3-1-2", "swap 0", "swap 0 1 2", "swap 0,1", "toll 0", "way 0", "spots 3x3", "spots 3", "spots 3 3x3", "goal", "plank", "plank 3 3", "lean", "leaps", "cross", "ways", "round", "stone", "hop", "cut", "order 3 1 2", "river .o ..o", "isles 2i 0-1:3"} {
		wantWhat(t, d, line)
		checkLine(t, d, line)
	}
}

// Promise 10: numbers from 0 up to 999999 are such, and no greater ones.
func TestNumbersOfLines(t *testing.T) {
	for _, d := range edgeDesks(t) {
		for _, n := range []int{0, 1, 10, 50, 99999, 100000, 999998, 999999, 1000000, 1000001, 1 << 32, 1<<32 + 1, math.MaxInt} {
			for _, kind := range consoleLines {
				lines := linesOfForm(kind.form, func(kind string) []string {
					if kind == "N" || kind == "K" {
						return []string{fmt.Sprint(n), "0"}
					}
					return goodWords(kind)[:2]
				})
				for _, line := range lines {
					reply := checkLine(t, d, line)
					if isTooGreat := n > 999999 && strings.Contains(line, " "+fmt.Sprint(n)); (reply == "what") != isTooGreat {
						t.Error("the reply to", line, "is", reply)
					}
				}
			}
		}
	}
}

// Promise 10: no word is in the table beside its own ones.
func TestWordsOutOfTheTable(t *testing.T) {
	d := firstDeskByHand()
	for _, kind := range consoleLines {
		word, _, _ := strings.Cut(kind.form, " ")
		for _, other := range append(changedTexts(word), word+"s", strings.TrimSuffix(word, "s"), word[1:]) {
			if strings.Contains(other, "\n") {
				continue
			}
			for _, words := range []string{"", " 1", " 1 0", " o", " ."} {
				checkLine(t, d, other+words)
			}
		}
	}
}

// Promise 10: texts that are nearly those of isles, corners and orders.
func TestChangedTextsOfLines(t *testing.T) {
	d := firstDeskByHand()
	for _, line := range []string{"river .o", "pond r.", "isles 3i0-1:10,0-2:1000", "order 2-1-3", "goal rr.ll", "plank 12x3", "spots 3x3 3", "swap 0 1", "toll 0 3", "lean 10", "home"} {
		for _, changed := range changedTexts(line) {
			if !strings.Contains(changed, "\n") {
				checkLine(t, d, changed)
			}
		}
	}
}

// Promise 10: all short texts of signs that orders have, and all of the orders themselves.
func TestOrdersOfLines(t *testing.T) {
	d := firstDeskByHand()
	texts := []string{""}
	for i := 0; i < len(texts); i++ {
		if checkLine(t, d, "order "+texts[i]); len(texts[i]) < 5 {
			for _, sign := range []string{"0", "1", "2", "3", "-"} {
				texts = append(texts, texts[i]+sign)
			}
		}
	}
	for _, order := range smallOrders(6) {
		want := d
		want.Order = order
		got, reply, ok := impl.DeskLine(d, "order "+orderTextByHand(order))
		wantDesk(t, "order "+reply, true, want, got, ok)
		wantText(t, "order", orderTextByHand(order), reply, ok)
	}
}

// mixedLine returns a line of the table, or at times one that is none.
func mixedLine(row *mixedRow) string {
	kinds := strings.Split(consoleLines[row.next(len(consoleLines))].form, " ")
	line := kinds[0]
	for _, kind := range kinds[1:] {
		words := goodWords(kind)
		// Small numbers change more.
		if len(words) > 10 && row.next(3) > 0 {
			words = words[:8]
		}
		if row.next(20) == 0 {
			words = noWords(kind)[:10]
		}
		line += " " + words[row.next(len(words))]
	}
	if row.next(30) == 0 {
		line += " " + goodWords("N")[row.next(3)]
	}
	return line
}

// Promise 10: scripts do what their lines do, one behind the other, each on the desk that the ones before have left.
func TestMixedScripts(t *testing.T) {
	row := &mixedRow{29}
	most := 0
	for many := range 200 {
		var lines []string
		for range many % (impl.MaxLines + 1) {
			if line := mixedLine(row); len(scriptOf(append(slices.Clone(lines), line)...)) <= impl.MaxScript {
				lines = append(lines, line)
			}
		}
		checkScript(t, lines...)
		most = max(most, len(lines))
	}
	if most != impl.MaxLines {
		t.Error("no script has all lines:", most)
	}
}

// Promise 10: the same lines by DeskLine, on desks that are mixed.
func TestMixedLines(t *testing.T) {
	row := &mixedRow{31}
	for range 60 {
		d := mixedDesk(row)
		for range 60 {
			line := mixedLine(row)
			checkLine(t, d, line)
			d, _ = lineByHand(d, line)
		}
	}
}

// Scripts that are as long as can be, and the shortest ones.
func TestEdgesOfScripts(t *testing.T) {
	if impl.MaxScript != 3000 || impl.MaxLines != 50 {
		t.Error("the limits are", impl.MaxScript, impl.MaxLines)
	}
	texts, ok := impl.RunScript("")
	wantTexts(t, "RunScript of nothing", nil, texts, ok)
	d, ok := impl.DeskAfter("")
	wantDesk(t, "DeskAfter of nothing", true, firstDeskByHand(), d, ok)
	list, ok := impl.FailedLines("")
	wantList(t, "FailedLines of nothing", nil, list, ok)
	texts, ok = impl.RunScript("\n")
	wantTexts(t, "RunScript of an empty line", []string{"what"}, texts, ok)
	list, ok = impl.FailedLines("\n\nshow\n\n")
	wantList(t, "FailedLines of empty lines", []int{1, 2, 4}, list, ok)
	river := "river " + strings.Repeat("o", impl.MaxRiver)
	long := strings.Repeat("x", impl.MaxScript-1)
	for _, lines := range [][]string{
		{}, {""}, {"", ""}, {"show"}, {"", "show"}, {"show", ""}, {" "}, {"show\r"}, {"fly"}, {"leaps 2"},
		slices.Repeat([]string{"show"}, impl.MaxLines), slices.Repeat([]string{""}, impl.MaxLines), slices.Repeat([]string{"no"}, impl.MaxLines), append(slices.Repeat([]string{"mirror"}, impl.MaxLines-1), "leaps 2"),
		{long}, {long[1:]}, {"mirror", long[7:]}, {long[7:], "mirror"}, slices.Repeat([]string{long[:impl.MaxScript/impl.MaxLines-1]}, impl.MaxLines),
		append(slices.Repeat([]string{river}, impl.MaxLines-1), strings.Repeat(" ", impl.MaxScript-(impl.MaxLines-1)*(len(river)+1)-1)),
	} {
		checkScript(t, lines...)
	}
}

// Promise 11: texts that are no scripts make the calls with them fail.
func TestTextsThatAreNoScripts(t *testing.T) {
	long := strings.Repeat("x", impl.MaxScript)
	for _, script := range []string{
		"show", " ", "x", "\r", "\x00", "show\nshow", "show\n ", "\nshow", "\n\n ", "show\r", "show\n\r", "leaps 3\nfly", "show\n\x00",
		strings.Repeat("show\n", impl.MaxLines) + "show", strings.Repeat("show\n", impl.MaxLines+1), strings.Repeat("\n", impl.MaxLines+1), strings.Repeat("show\n", impl.MaxLines) + "\n", "\n" + strings.Repeat("show\n", impl.MaxLines), strings.Repeat("\n", impl.MaxScript), strings.Repeat("\n", 100000),
		long, long + "\n", "\n" + long[1:] + "\n", "show\n" + long[5:] + "\n", long[:impl.MaxScript-2] + "\n\n\n", strings.Repeat(long+"\n", 100), strings.Repeat("x", 1000000),
	} {
		wantNoScript(t, script)
	}
}

// Promise 11: a line with a newline, or one that is too long, makes DeskLine fail, whatever it would do.
func TestLinesThatAreNone(t *testing.T) {
	d := firstDeskByHand()
	long := strings.Repeat("x", impl.MaxScript)
	for _, line := range []string{"\n", "\n\n", "show\n", "\nshow", "sh\now", "show\nshow", "show \n", "leaps\n3", "leaps 3\n", "river o\n", "x\ny", long[1:] + "\n", "\n" + long[1:], long + "x", long + "\n", "show" + strings.Repeat(" ", impl.MaxScript-3), " " + long, strings.Repeat("x", 1000000)} {
		got, reply, ok := impl.DeskLine(d, line)
		what := fmt.Sprintf("DeskLine %.40q", line)
		wantDesk(t, what, false, impl.Desk{}, got, ok)
		wantTextOr(t, what, false, "", reply, ok)
	}
	for _, line := range []string{long, long[1:], "show" + strings.Repeat(" ", impl.MaxScript-4), "river " + strings.Repeat("o", impl.MaxScript-6), "order " + strings.Repeat("1-", impl.MaxScript/2-4) + "1", "leaps " + strings.Repeat("0", impl.MaxScript-6), strings.Repeat(" ", impl.MaxScript), "leaps 3\r", "show\x00", "\xff\xfe", "\u2028"} {
		wantWhat(t, d, line)
	}
}

// noDesks returns desks that are none in one field.
func noDesks() []impl.Desk {
	desks := []impl.Desk{{}}
	add := func(set func(d *impl.Desk)) {
		d := firstDeskByHand()
		set(&d)
		desks = append(desks, d)
	}
	for _, river := range noRivers() {
		add(func(d *impl.Desk) { d.River = river })
	}
	for _, pond := range noPonds() {
		add(func(d *impl.Desk) { d.Pond = pond })
	}
	for _, isles := range noIsles() {
		add(func(d *impl.Desk) { d.Isles = isles })
	}
	for _, order := range noOrders() {
		add(func(d *impl.Desk) { d.Order = order })
	}
	add(func(d *impl.Desk) { d.River, d.Pond = d.Pond, d.River })
	return desks
}

// Promise 11: desks that are none in any of their fields make DeskLine fail, also for lines that do not ask this field, or set it.
func TestDesksThatAreNone(t *testing.T) {
	for _, d := range noDesks() {
		what := fmt.Sprintf("%.100s", fmt.Sprint(d))
		if impl.IsDesk(d) {
			t.Error("IsDesk", what)
		}
		for _, line := range []string{"", "show", "frogs", "map", "list", "fly", "lean 5", "river o", "pond .", "isles 1i", "order 1", "leaps 3", "moves", "join", "rank", "swap 0 1", "leaps 2", "x\ny"} {
			got, reply, ok := impl.DeskLine(d, line)
			wantDesk(t, "DeskLine "+what+" "+line, false, impl.Desk{}, got, ok)
			wantTextOr(t, "DeskLine "+what+" "+line, false, "", reply, ok)
		}
	}
	row := &mixedRow{37}
	desks := edgeDesks(t)
	for range 100 {
		desks = append(desks, mixedDesk(row))
	}
	for _, d := range desks {
		if !impl.IsDesk(d) {
			t.Error("IsDesk is false of", d)
		}
	}
}

// Promise 11: no call panics, whatever the bytes of a line or a script are, and the same call tells the same again.
func TestConsoleCallsAreTotal(t *testing.T) {
	row := &mixedRow{41}
	pieces := []string{"", " ", "  ", "\n", "\x00", "\xff", "-", "0", "1", "3", "999999", "1000000", "o", ".o..o", "rr.ll", "1i", exampleIsles, "3x3", "3-1-2", "é"}
	for _, kind := range consoleLines {
		word, _, _ := strings.Cut(kind.form, " ")
		pieces = append(pieces, word, word+" ", "\n"+word+" ")
	}
	for range 3000 {
		text := ""
		for range 1 + row.next(8) {
			text += pieces[row.next(len(pieces))]
		}
		if strings.Contains(text, "\n") {
			got, reply, ok := impl.DeskLine(firstDeskByHand(), text)
			wantDesk(t, fmt.Sprintf("DeskLine %q", text), false, impl.Desk{}, got, ok)
			wantTextOr(t, fmt.Sprintf("DeskLine %q", text), false, "", reply, ok)
		} else {
			checkLine(t, firstDeskByHand(), text)
		}
		if !strings.HasSuffix(text, "\n") && text != "" {
			wantNoScript(t, text)
			text += "\n"
		}
		checkScript(t, strings.Split(text, "\n")[:strings.Count(text, "\n")]...)
	}
	for _, d := range noDesks() {
		for range 20 {
			impl.DeskLine(d, mixedLine(row))
		}
	}
}

// manyLines returns lines of all forms, with some of their words.
func manyLines() []string {
	lines := []string{"", "fly", "river", "swap 0"}
	for _, kind := range consoleLines {
		lines = append(lines, linesOfForm(kind.form, func(kind string) []string { return goodWords(kind)[:3] })...)
	}
	return lines
}

// Promise 11: the bridges and the order of a desk that is handed in stay as they are, and so does the room behind them.
func TestConsoleArgumentsAreNotChanged(t *testing.T) {
	for _, d := range append(edgeDesks(t), noDesks()[1], impl.Desk{River: "o", Pond: ".", Isles: impl.Isles{Count: 2}, Order: []int{1, 1}}) {
		for _, line := range manyLines() {
			given := impl.Desk{River: d.River, Pond: d.Pond, Isles: islesWithRoom(d.Isles), Order: withRoom(d.Order)}
			got, reply, ok := impl.DeskLine(given, line)
			if given.River != d.River || given.Pond != d.Pond || !areUntouched(given.Isles, d.Isles) || !isUntouched(given.Order, d.Order) {
				t.Errorf("DeskLine %v %q changes the desk", d, line)
			}
			want, told, fine := impl.DeskLine(d, line)
			if !isSameDesk(got, want) || reply != told || ok != fine {
				t.Errorf("DeskLine %v %q with room: %v %q %v", d, line, got, reply, ok)
			}
		}
	}
}

// sharesBytes reports whether two texts have bytes in the same memory.
func sharesBytes(one, other string) bool {
	first, next := uintptr(unsafe.Pointer(unsafe.StringData(one))), uintptr(unsafe.Pointer(unsafe.StringData(other)))
	return one != "" && other != "" && first < next+uintptr(len(other)) && next < first+uintptr(len(one))
}

// overwrite changes the numbers of a desk, and those in the room behind them.
func overwrite(d impl.Desk) {
	for i := range d.Order[:cap(d.Order)] {
		d.Order[:cap(d.Order)][i] = -99
	}
	for i := range d.Isles.Bridges[:cap(d.Isles.Bridges)] {
		d.Isles.Bridges[:cap(d.Isles.Bridges)][i] = impl.Bridge{A: -99, B: -99, Toll: -99}
	}
}

// Promise 11: the desk behind a line shares no memory with the one before it, even if nothing changes, nor with the line.
func TestDesksBehindLinesAreNew(t *testing.T) {
	for _, d := range edgeDesks(t) {
		for _, line := range manyLines() {
			given := impl.Desk{River: strings.Clone(d.River), Pond: strings.Clone(d.Pond), Isles: impl.Isles{Count: d.Isles.Count, Bridges: slices.Clone(d.Isles.Bridges)}, Order: slices.Clone(d.Order)}
			line = strings.Clone(line)
			got, reply, _ := impl.DeskLine(given, line)
			for _, text := range []string{got.River, got.Pond, reply} {
				for _, argument := range []string{given.River, given.Pond, line} {
					if sharesBytes(text, argument) {
						t.Errorf("DeskLine %v %q hands out its argument %q", d, line, argument)
					}
				}
			}
			want, _ := lineByHand(d, line)
			overwrite(got)
			wantDesk(t, "a desk behind a change of the result of "+line, true, d, given, true)
			again, _, ok := impl.DeskLine(given, line)
			wantDesk(t, "DeskLine behind a change of its result "+line, true, want, again, ok)
			overwrite(given)
			wantDesk(t, "DeskLine behind a change of its argument "+line, true, want, again, ok)
		}
	}
}

// Promise 11: what scripts and the first desk hand out is new each time.
func TestScriptResultsAreNew(t *testing.T) {
	script := scriptOf("leaps 2", "river o.o", "fly", "order 2-1", "show", "frogs")
	for name, call := range map[string]func() (impl.Desk, bool){
		"FirstDesk":            func() (impl.Desk, bool) { return impl.FirstDesk(), true },
		"DeskAfter":            func() (impl.Desk, bool) { return impl.DeskAfter(script) },
		"DeskAfter of nothing": func() (impl.Desk, bool) { return impl.DeskAfter("") },
	} {
		first, _ := call()
		want := impl.Desk{River: first.River, Pond: first.Pond, Isles: impl.Isles{Count: first.Isles.Count, Bridges: slices.Clone(first.Isles.Bridges)}, Order: slices.Clone(first.Order)}
		overwrite(first)
		again, ok := call()
		wantDesk(t, name+" behind a change of its result", true, want, again, ok)
	}
	wantNewLists(t, map[string]func() ([]int, bool){"FailedLines": func() ([]int, bool) { return impl.FailedLines(script) }})
	replies, _ := impl.RunScript(script)
	d, _ := impl.DeskAfter(script)
	for _, text := range append(slices.Clone(replies), d.River, d.Pond) {
		if sharesBytes(text, script) {
			t.Errorf("a script is handed out in %q", text)
		}
	}
	clear(replies[:cap(replies)])
	again, ok := impl.RunScript(script)
	wantTexts(t, "RunScript behind a change of its result", []string{"no", "o.o", "what", "2-1", "o.o", "rr.ll"}, again, ok)
}
