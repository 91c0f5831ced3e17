package impl

import (
	"errors"
	"slices"
	"testing"
)

// The limit is tested from inside: no pond lets frogs make so many moves.
func TestIsMoveList(t *testing.T) {
	for n := range MaxFrogMoves + 1 {
		if !isMoveList(make([]int, n)) {
			t.Error(n, "moves are too many")
		}
	}
	for _, n := range []int{MaxFrogMoves + 1, 2 * MaxFrogMoves, 100000} {
		if isMoveList(make([]int, n)) {
			t.Error(n, "moves are not too many")
		}
	}
}

// The error of a move that cannot be made is told from others, and tells which frog is in the way.
func TestErrorsOfMoves(t *testing.T) {
	cases := []struct {
		pond  string
		from  int
		taken byte
	}{
		{"rr.", 0, 'r'}, {".ll", 2, 'l'}, {"rll", 0, 'l'}, {"rrl", 2, 'r'}, {"rlr.", 0, 'r'},
		{".r", 1, 0}, {"l.", 0, 0}, {"rl", 0, 0}, {"rl", 1, 0}, {"...", 1, 0}, {"r", -1, 0}, {"r", 1, 0},
	}
	for _, c := range cases {
		end, err := throughDoor(c.pond, []int{c.from})
		if !errors.Is(err, errNoMove) || end != (frogPlay{}) {
			t.Error(c.pond, c.from, "gives", end, err)
		}
		var taken takenError
		if errors.As(err, &taken) != (c.taken != 0) || taken.frog != c.taken {
			t.Error(c.pond, c.from, "is taken by", taken.frog)
		}
		if c.taken != 0 && err.Error() != "no such move: "+string(rune(c.taken)) {
			t.Error(c.pond, c.from, "says", err)
		}
	}
}

// Each pond comes before all those to which moves lead from it, which counting and the searches rely on.
func TestPondsFromComeInOrder(t *testing.T) {
	for _, pond := range []string{"rrr...lll", "rrrr.llll", "r.r...l.l", "rrrr.....", "........."} {
		ponds := pondsFrom(pond)
		for i, p := range ponds {
			for _, move := range movesOf(p) {
				if slices.Index(ponds, move.behind) <= i {
					t.Error(move.behind, "comes before", p)
				}
			}
		}
	}
}
