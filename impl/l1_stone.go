package impl

const MaxRiver = 40
const MaxLeap = 50
const MaxCrossings = 1000000000000000

const (
	stoneSign = 'o'
	waterSign = '.'
)

// stride is a leap from the first place to the second one.
type stride [2]int

func (s stride) length() int { return s[1] - s[0] }

// IsRiver reports whether a text is a river.
func IsRiver(river string) bool {
	if len(river) < 1 || len(river) > MaxRiver {
		return false
	}
	for i := range len(river) {
		if river[i] != stoneSign && river[i] != waterSign {
			return false
		}
	}
	return true
}

func isLeap(leap int) bool { return 1 <= leap && leap <= MaxLeap }

func isRiverWithLeap(river string, leap int) bool { return IsRiver(river) && isLeap(leap) }

func farBank(river string) int { return len(river) + 1 }

func isInRiver(river string, place int) bool { return 1 <= place && place <= len(river) }

func isStoneAt(river string, place int) bool {
	return isInRiver(river, place) && river[place-1] == stoneSign
}

// standingPlaces returns the places on which one stands: stones and banks.
func standingPlaces(river string) map[int]bool {
	stands := map[int]bool{0: true, farBank(river): true}
	for place := 1; place <= len(river); place++ {
		if isStoneAt(river, place) {
			stands[place] = true
		}
	}
	return stands
}

// stridesOf returns the leaps from each place on which one stands to the next one, in their order.
func stridesOf(river string) []stride {
	stands := standingPlaces(river)
	var strides []stride
	from := 0
	for to := 1; to <= farBank(river); to++ {
		if stands[to] {
			strides = append(strides, stride{from, to})
			from = to
		}
	}
	return strides
}

// StonesOf returns the places of all stones, increasing.
func StonesOf(river string) ([]int, bool) {
	if !IsRiver(river) {
		return nil, false
	}
	var stones []int
	for place := 1; place <= len(river); place++ {
		if isStoneAt(river, place) {
			stones = append(stones, place)
		}
	}
	return stones, true
}

// CanCross reports whether there is a crossing.
func CanCross(river string, leap int) (bool, bool) {
	if !isRiverWithLeap(river, leap) {
		return false, false
	}
	return longestStride(river).length() <= leap, true
}

// LeastLeap returns the least length of leaps for which there is one.
func LeastLeap(river string) (int, bool) {
	if !IsRiver(river) {
		return 0, false
	}
	return longestStride(river).length(), true
}

// longestStride returns the first one of the longest strides. Each crossing leaps over
// the whole of it at once, so that its length decides who can cross.
func longestStride(river string) stride {
	var longest stride
	for _, s := range stridesOf(river) {
		if s.length() > longest.length() {
			longest = s
		}
	}
	return longest
}

// FewestLeaps returns the least number of leaps of a crossing. It fails if there is none.
func FewestLeaps(river string, leap int) (int, bool) {
	left, ok := LeapsLeft(river, leap)
	if !ok || left[0] < 0 {
		return 0, false
	}
	return left[0], true
}

// FirstCrossing returns the first crossing with so few leaps. It fails in the same way.
func FirstCrossing(river string, leap int) ([]int, bool) {
	left, ok := LeapsLeft(river, leap)
	if !ok || left[0] < 0 {
		return nil, false
	}
	crossing := []int{0}
	place := 0
search:
	for rest := left[0] - 1; rest >= 0; rest-- {
		for place++; place < len(left); place++ {
			// The first such place is near enough: one that a leap comes to has as many left.
			if left[place] == rest {
				crossing = append(crossing, place)
				continue search
			}
		}
	}
	return crossing, true
}

// CountCrossings returns how many crossings there are. It fails if they are more than MaxCrossings.
func CountCrossings(river string, leap int) (int, bool) {
	if !isRiverWithLeap(river, leap) {
		return 0, false
	}
	sum := 0
	for _, count := range crossingsByLeaps(river, leap) {
		sum += count
	}
	return upToMaxCrossings(sum)
}

// CountByLeaps returns how many have just so many leaps, in 0..MaxRiver + 1. It fails in the same way.
func CountByLeaps(river string, leap int, leaps int) (int, bool) {
	if !isRiverWithLeap(river, leap) || leaps < 0 || leaps > MaxRiver+1 {
		return 0, false
	}
	return upToMaxCrossings(crossingsByLeaps(river, leap)[leaps])
}

// upToMaxCrossings fails for counts beyond the limit. With MaxRiver places there are
// at most 2 to the power of MaxRiver crossings, which are fewer; the limit is checked
// so that it still holds if a constant changes.
func upToMaxCrossings(count int) (int, bool) {
	if count > MaxCrossings {
		return 0, false
	}
	return count, true
}

// crossingsByLeaps returns, for each number of leaps, how many crossings have as many.
func crossingsByLeaps(river string, leap int) [MaxRiver + 2]int {
	var counts [MaxRiver + 2]int
	strides := stridesOf(river)
	ways := [MaxRiver + 2]int{0: 1}
	for leaps := range counts {
		counts[leaps] = ways[farBank(river)]
		ways = waysOneLeapOn(strides, leap, ways)
	}
	return counts
}

// waysOneLeapOn returns how many ways lead to each place if they are one leap longer than those given.
func waysOneLeapOn(strides []stride, leap int, ways [MaxRiver + 2]int) [MaxRiver + 2]int {
	var on [MaxRiver + 2]int
	for _, s := range strides {
		to := s[1]
		for from := max(0, to-leap); from < to; from++ {
			on[to] += ways[from]
		}
	}
	return on
}

// ReachOf returns the farthest place to which one comes from the near bank.
func ReachOf(river string, leap int) (int, bool) {
	if !isRiverWithLeap(river, leap) {
		return 0, false
	}
	place := 0
	for _, s := range stridesOf(river) {
		if s.length() > leap {
			break
		}
		place = s[1]
	}
	return place, true
}

// LongestGap returns the greatest length of a leap from a place to the next one on which one stands, and where it begins, the first one of several.
func LongestGap(river string) (int, int, bool) {
	if !IsRiver(river) {
		return 0, 0, false
	}
	longest := longestStride(river)
	return longest.length(), longest[0], true
}

// NeededStones returns all stones that are in each crossing, increasing. It fails if there is none.
func NeededStones(river string, leap int) ([]int, bool) {
	if can, ok := CanCross(river, leap); !ok || !can {
		return nil, false
	}
	strides := stridesOf(river)
	var needed []int
	for i := 1; i < len(strides); i++ {
		// A stone can be left out just if one can leap over it from its neighbours.
		over := stride{strides[i-1][0], strides[i][1]}
		if over.length() > leap {
			needed = append(needed, strides[i][0])
		}
	}
	return needed, true
}

// IdleStones returns all stones that are in no crossing, increasing.
func IdleStones(river string, leap int) ([]int, bool) {
	can, ok := CanCross(river, leap)
	if !ok || can {
		// If there is any crossing, the list of all stones is one, too: none is idle.
		return nil, ok
	}
	return StonesOf(river)
}

// FewestToAdd returns the least number of stones that have to be put in so that there is a crossing.
func FewestToAdd(river string, leap int) (int, bool) {
	added, ok := StonesToAdd(river, leap)
	return len(added), ok
}

// StonesToAdd returns the lexicographically last list of so few places to put them in, increasing.
func StonesToAdd(river string, leap int) ([]int, bool) {
	if !isRiverWithLeap(river, leap) {
		return nil, false
	}
	var added []int
	for _, s := range stridesOf(river) {
		// Each stone as far as a leap goes needs the fewest, and no list of as few is later.
		for place := s[0] + leap; place < s[1]; place += leap {
			added = append(added, place)
		}
	}
	return added, true
}

// PutStone returns the river with a stone put in. It fails if one is there, or if the place is none in the river.
func PutStone(river string, place int) (string, bool) {
	if !IsRiver(river) || !isInRiver(river, place) || isStoneAt(river, place) {
		return "", false
	}
	return withSign(river, place, stoneSign), true
}

// TakeStone returns the river without a stone. It fails if none is there.
func TakeStone(river string, place int) (string, bool) {
	if !IsRiver(river) || !isStoneAt(river, place) {
		return "", false
	}
	return withSign(river, place, waterSign), true
}

func withSign(river string, place int, sign byte) string {
	signs := []byte(river)
	signs[place-1] = sign
	return string(signs)
}

// LeapAlong returns the place to which leaps of these lengths, a list of at most MaxRiver + 1 numbers of at least 1, lead from the near bank, one after the other. It fails if one of them leads into water, or beyond the far bank.
func LeapAlong(river string, leaps []int) (int, bool) {
	if !IsRiver(river) || len(leaps) > MaxRiver+1 {
		return 0, false
	}
	stands := standingPlaces(river)
	place := 0
	for _, length := range leaps {
		// No one stands beyond the far bank, nor where a sum that wraps around leads: it is negative.
		if length < 1 || !stands[place+length] {
			return 0, false
		}
		place += length
	}
	return place, true
}

// LeapsLeft returns for each place, from the near bank to the far one, the least number of leaps from there to the far bank, or -1 if there is no way, or no place to stand on.
func LeapsLeft(river string, leap int) ([]int, bool) {
	if !isRiverWithLeap(river, leap) {
		return nil, false
	}
	stands := standingPlaces(river)
	far := farBank(river)
	left := make([]int, far+1)
	for place := far - 1; place >= 0; place-- {
		left[place] = -1
		if stands[place] {
			left[place] = oneMoreThanLeast(left[place+1 : min(place+leap, far)+1])
		}
	}
	return left, true
}

// oneMoreThanLeast returns 1 more than the least of the numbers that are not negative, or -1 if all are.
func oneMoreThanLeast(numbers []int) int {
	least := -1
	for _, n := range numbers {
		if n >= 0 && (least < 0 || n+1 < least) {
			least = n + 1
		}
	}
	return least
}

// MirrorRiver returns the river told from the other bank.
func MirrorRiver(river string) (string, bool) {
	if !IsRiver(river) {
		return "", false
	}
	signs := make([]byte, 0, len(river))
	for place := len(river); place >= 1; place-- {
		signs = append(signs, river[place-1])
	}
	return string(signs), true
}

// JoinRivers returns the river with the signs of a, and behind them those of b. It fails if they are too many.
func JoinRivers(a string, b string) (string, bool) {
	if !IsRiver(a) || !IsRiver(b) || len(a)+len(b) > MaxRiver {
		return "", false
	}
	return a + b, true
}
