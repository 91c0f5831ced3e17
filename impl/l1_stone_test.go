package impl

import "testing"

// The limit is tested from inside: no river has so many crossings.
func TestUpToMaxCrossings(t *testing.T) {
	for _, count := range []int{0, 1, 1 << MaxRiver, MaxCrossings - 1, MaxCrossings} {
		if n, ok := upToMaxCrossings(count); n != count || !ok {
			t.Error(count, "is not within the limit:", n, ok)
		}
	}
	for _, count := range []int{MaxCrossings + 1, 2 * MaxCrossings} {
		if n, ok := upToMaxCrossings(count); n != 0 || ok {
			t.Error(count, "is within the limit:", n, ok)
		}
	}
}
