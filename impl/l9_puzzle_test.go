package impl

import "testing"

// The error of clues that are none tells the first one.
func TestErrorOfClues(t *testing.T) {
	good := Clue{clueOfStones, 0, 1}
	for _, none := range []Clue{{-1, 0, 1}, {clueKinds, 0, 1}, {clueOfStones, 0, 4}, {clueOfPlace, 0, 1}} {
		err := throughClueDoor(3, good, none, Clue{77, 7, 7}, good)
		if told, ok := err.(noClueError); !ok || told.clue != none || told.Error() != "no clue: "+clueText(none) {
			t.Error(none, "gives", err)
		}
	}
	if text := clueText(Clue{-1, 20, 3}); text != "-1.20.3" {
		t.Error("a clue is told as", text)
	}
	if err := throughClueDoor(3, good, good); err != nil {
		t.Error("clues give", err)
	}
}
