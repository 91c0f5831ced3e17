package tests

import (
	"fmt"
	"math"
	"slices"
	"strings"
	"testing"
	"unsafe"

	"loop.example/g01352/impl"
)

const exampleShore, exampleTide = "24", "13"

// tideWalk is a shore with its tide and how far one leaps there.
type tideWalk struct {
	heights, tide string
	leap          int
}

func (w tideWalk) far() int { return len(w.heights) + 1 }

// isDry holds the banks for stones that are higher than all water.
func (w tideWalk) isDry(place, hour int) bool {
	return (":" + w.heights + ":")[place] > w.tide[hour%len(w.tide)]
}

// near returns all places, dry or not, to which one comes from a place in an hour, increasing.
func (w tideWalk) near(place int) []int {
	var places []int
	for to := range w.far() + 1 {
		if to-place <= w.leap && place-to <= w.leap {
			places = append(places, to)
		}
	}
	return places
}

// ways returns all ways of so many hours from the near bank, in lexicographic order.
func (w tideWalk) ways(start, hours int) [][]int {
	ways := [][]int{{0}}
	for hour := start + 1; hour <= start+hours; hour++ {
		var longer [][]int
		for _, way := range ways {
			for _, to := range w.near(way[len(way)-1]) {
				if w.isDry(to, hour) {
					longer = append(longer, append(slices.Clone(way), to))
				}
			}
		}
		ways = longer
	}
	return ways
}

// arrivals goes on with all who set out at once, for so long that they are at new places no more.
func (w tideWalk) arrivals(start int) []int {
	first := slices.Repeat([]int{-1}, w.far()+1)
	first[0] = start
	isThere := make([]bool, w.far()+1)
	isThere[0] = true
	for hour := start + 1; hour <= start+len(first)*len(w.tide)+1; hour++ {
		isNext := make([]bool, w.far()+1)
		for place, is := range isThere {
			for _, to := range w.near(place) {
				if !is || !w.isDry(to, hour) {
					continue
				}
				isNext[to] = true
				if first[to] < 0 {
					first[to] = hour
				}
			}
		}
		isThere = isNext
	}
	return first
}

// tideSearch looks for ways from moments to an end. It keeps in mind those from which there is none, and how many there are.
type tideSearch struct {
	tideWalk
	end    int
	isDead map[[2]int]bool
	counts map[[2]int]int
}

func (w tideWalk) searchUpTo(end int) tideSearch {
	return tideSearch{w, end, map[[2]int]bool{}, map[[2]int]int{}}
}

// first returns the first way on from a place to the far bank at the end, or nil.
func (s tideSearch) first(place, hour int) []int {
	moment := [2]int{place, hour}
	if s.isDead[moment] || !s.isDry(place, hour) {
		return nil
	}
	if hour == s.end && place == s.far() {
		return []int{place}
	}
	if hour < s.end {
		for _, to := range s.near(place) {
			if on := s.first(to, hour+1); on != nil {
				return append([]int{place}, on...)
			}
		}
	}
	s.isDead[moment] = true
	return nil
}

// count returns how many ways lead on to the far bank at the end, and not before.
func (s tideSearch) count(place, hour int) int {
	if !s.isDry(place, hour) {
		return 0
	}
	if isFar := place == s.far(); isFar || hour == s.end {
		if isFar && hour == s.end {
			return 1
		}
		return 0
	}
	moment := [2]int{place, hour}
	if n, isKnown := s.counts[moment]; isKnown {
		return n
	}
	n := 0
	for _, to := range s.near(place) {
		n += s.count(to, hour+1)
	}
	s.counts[moment] = n
	return n
}

// isWay goes along a list of any numbers.
func (w tideWalk) isWay(start int, way []int) bool {
	if len(way) == 0 || way[0] != 0 {
		return false
	}
	for i := 1; i < len(way); i++ {
		if !slices.Contains(w.near(way[i-1]), way[i]) || !w.isDry(way[i], start+i) {
			return false
		}
	}
	return way[len(way)-1] == w.far()
}

// needed returns how many hours one needs from each start of one tide, or -1.
func (w tideWalk) needed() []int {
	var needed []int
	for start := range len(w.tide) {
		needed = append(needed, max(w.arrivals(start)[w.far()]-start, -1))
	}
	return needed
}

func checkTideWay(t *testing.T, w tideWalk, start int, way []int) {
	t.Helper()
	is, ok := impl.IsTideWay(w.heights, w.tide, w.leap, start, way)
	wantBool(t, fmt.Sprintf("IsTideWay %v %d %.80s", w, start, fmt.Sprint(way)), w.isWay(start, way), is, ok)
}

// checkStart compares what is told from one start on.
func checkStart(t *testing.T, w tideWalk, start int) {
	t.Helper()
	what := fmt.Sprint(w, " ", start)
	arrivals := w.arrivals(start)
	got, ok := impl.ArrivalsOf(w.heights, w.tide, w.leap, start)
	wantList(t, "ArrivalsOf "+what, arrivals, got, ok)
	end := arrivals[w.far()]
	hour, ok := impl.EarliestAt(w.heights, w.tide, w.leap, start)
	wantIntOr(t, "EarliestAt "+what, end >= 0, end, hour, ok)
	first := w.searchUpTo(end).first(0, start)
	if (first == nil) != (end < 0) {
		t.Error("a way or its end is told wrongly:", what, first, end)
	}
	way, ok := impl.EarliestWay(w.heights, w.tide, w.leap, start)
	wantListOr(t, "EarliestWay "+what, end >= 0, first, way, ok)
	checkTideWay(t, w, start, first)
	for i := range first {
		for by := -2; by <= 2; by++ {
			changed := slices.Clone(first)
			changed[i] += by
			checkTideWay(t, w, start, changed)
		}
		checkTideWay(t, w, start, slices.Delete(slices.Clone(first), i, i+1))
		checkTideWay(t, w, start, slices.Insert(slices.Clone(first), i, first[i]))
	}
	for hours := range 11 {
		n, ok := impl.CountTideWays(w.heights, w.tide, w.leap, start, hours)
		wantInt(t, fmt.Sprint("CountTideWays ", what, " ", hours), w.searchUpTo(start+hours).count(0, start), n, ok)
	}
}

// checkWalk compares what is told over all starts.
func checkWalk(t *testing.T, w tideWalk) {
	t.Helper()
	needed := w.needed()
	least := slices.Min(needed)
	hours, start, ok := impl.FewestHours(w.heights, w.tide, w.leap)
	wantTwo(t, fmt.Sprint("FewestHours ", w), least >= 0, least, slices.Index(needed, least), hours, start, ok)
	most := slices.Max(needed)
	for _, hours := range []int{0, 1, 2, 3, least - 1, least, least + 1, most - 1, most, most + 1, impl.MaxHour - 1, impl.MaxHour} {
		if hours >= 0 {
			checkStartsWithin(t, w, needed, hours)
		}
	}
	for end := range most + 2*len(w.tide) + 2 {
		checkLatestStart(t, w, needed, end)
	}
	for _, end := range []int{50, 51, 500, impl.MaxHour - 2, impl.MaxHour - 1, impl.MaxHour} {
		checkLatestStart(t, w, needed, end)
	}
}

func checkStartsWithin(t *testing.T, w tideWalk, needed []int, hours int) {
	t.Helper()
	var want []int
	for start, n := range needed {
		if n >= 0 && n <= hours {
			want = append(want, start)
		}
	}
	starts, ok := impl.StartsWithin(w.heights, w.tide, w.leap, hours)
	wantList(t, fmt.Sprint("StartsWithin ", w, " ", hours), want, starts, ok)
}

func checkLatestStart(t *testing.T, w tideWalk, needed []int, end int) {
	t.Helper()
	latest := -1
	for start := range end + 1 {
		if n := needed[start%len(needed)]; n >= 0 && start+n <= end {
			latest = start
		}
	}
	start, ok := impl.LatestStart(w.heights, w.tide, w.leap, end)
	wantIntOr(t, fmt.Sprint("LatestStart ", w, " ", end), latest >= 0, latest, start, ok)
}

// checkDry compares what is told without leaps.
func checkDry(t *testing.T, heights, tide string) {
	t.Helper()
	what := heights + " " + tide
	w := tideWalk{heights, tide, 1}
	for _, hour := range append(firstNumbers(2*len(tide)+1), 99, 500, impl.MaxHour-1, impl.MaxHour) {
		signs := ""
		for place := 1; place < w.far(); place++ {
			signs += map[bool]string{true: "o", false: "."}[w.isDry(place, hour)]
		}
		river, ok := impl.DryAt(heights, tide, hour)
		wantText(t, fmt.Sprint("DryAt ", what, " ", hour), signs, river, ok)
		if !impl.IsRiver(river) {
			t.Error("DryAt gives no river:", what, river)
		}
	}
	var always, never []int
	for place := 1; place < w.far(); place++ {
		var dry []int
		for hour := range len(tide) {
			if w.isDry(place, hour) {
				dry = append(dry, hour)
			}
		}
		hours, ok := impl.DryHours(heights, tide, place)
		wantList(t, fmt.Sprint("DryHours ", what, " ", place), dry, hours, ok)
		if len(dry) == len(tide) {
			always = append(always, place)
		}
		if len(dry) == 0 && heights[place-1] != '0' {
			never = append(never, place)
		}
	}
	places, ok := impl.AlwaysDry(heights, tide)
	wantList(t, "AlwaysDry "+what, always, places, ok)
	places, ok = impl.NeverDry(heights, tide)
	wantList(t, "NeverDry "+what, never, places, ok)
	for w.arrivals(0)[w.far()] < 0 {
		w.leap++
	}
	leap, ok := impl.LeastTideLeap(heights, tide)
	wantInt(t, "LeastTideLeap "+what, w.leap, leap, ok)
}

func checkShore(t *testing.T, heights string) {
	t.Helper()
	if !impl.IsShore(heights) {
		t.Error("IsShore is false of", heights)
	}
	turned := ""
	for _, height := range heights {
		turned = string(height) + turned
	}
	mirrored, ok := impl.MirrorShore(heights)
	wantText(t, "MirrorShore "+heights, turned, mirrored, ok)
	for place := -1; place <= len(heights)+2; place++ {
		for by := -1; by <= 11; by++ {
			checkRaised(t, heights, place, by)
		}
	}
}

func checkRaised(t *testing.T, heights string, place, by int) {
	t.Helper()
	want, exists := "", 1 <= place && place <= len(heights) && 1 <= by && by <= 9
	if exists {
		height := int(heights[place-1]-'0') + by
		want, exists = heights[:place-1]+fmt.Sprint(height)+heights[place:], height <= 9
	}
	got, ok := impl.RaiseStone(heights, place, by)
	wantTextOr(t, fmt.Sprint("RaiseStone ", heights, " ", place, " ", by), exists, want, got, ok)
}

func checkTide(t *testing.T, tide string) {
	t.Helper()
	if !impl.IsTide(tide) {
		t.Error("IsTide is false of", tide)
	}
	levels := digitsOf(tide)
	most := slices.Max(levels)
	highest, hour, ok := impl.HighestHour(tide)
	wantTwo(t, "HighestHour "+tide, true, most, slices.Index(levels, most), highest, hour, ok)
	for by := -2; by <= len(tide)+2; by++ {
		want, exists := "", 0 <= by && by < len(tide)
		for hour := range len(tide) {
			if exists {
				want += tide[(hour+by)%len(tide):][:1]
			}
		}
		turned, ok := impl.TurnTide(tide, by)
		wantTextOr(t, fmt.Sprint("TurnTide ", tide, " ", by), exists, want, turned, ok)
	}
}

func TestTideExample(t *testing.T) {
	for hour, want := range []string{"oo", ".o", "oo", ".o"} {
		river, ok := impl.DryAt(exampleShore, exampleTide, hour)
		wantText(t, fmt.Sprint("DryAt ", hour), want, river, ok)
	}
	hours, ok := impl.DryHours(exampleShore, exampleTide, 1)
	wantList(t, "DryHours 1", []int{0}, hours, ok)
	hours, ok = impl.DryHours(exampleShore, exampleTide, 2)
	wantList(t, "DryHours 2", []int{0, 1}, hours, ok)
	hour, ok := impl.EarliestAt(exampleShore, exampleTide, 1, 0)
	wantInt(t, "EarliestAt from 0", 4, hour, ok)
	way, ok := impl.EarliestWay(exampleShore, exampleTide, 1, 0)
	wantList(t, "EarliestWay from 0", []int{0, 0, 1, 2, 3}, way, ok)
	arrivals, ok := impl.ArrivalsOf(exampleShore, exampleTide, 1, 0)
	wantList(t, "ArrivalsOf from 0", []int{0, 2, 3, 4}, arrivals, ok)
	is, ok := impl.IsTideWay(exampleShore, exampleTide, 1, 0, way)
	wantBool(t, "IsTideWay from 0", true, is, ok)
	is, ok = impl.IsTideWay(exampleShore, exampleTide, 1, 1, way)
	wantBool(t, "IsTideWay from 1", false, is, ok)
	hour, ok = impl.EarliestAt(exampleShore, exampleTide, 1, 1)
	wantInt(t, "EarliestAt from 1", 4, hour, ok)
	least, start, ok := impl.FewestHours(exampleShore, exampleTide, 1)
	wantTwo(t, "FewestHours with 1", true, 3, 1, least, start, ok)
	least, start, ok = impl.FewestHours(exampleShore, exampleTide, 2)
	wantTwo(t, "FewestHours with 2", true, 2, 0, least, start, ok)
	always, ok := impl.AlwaysDry(exampleShore, exampleTide)
	wantList(t, "AlwaysDry", []int{2}, always, ok)
	never, ok := impl.NeverDry(exampleShore, exampleTide)
	wantList(t, "NeverDry", nil, never, ok)
	latest, ok := impl.LatestStart(exampleShore, exampleTide, 1, 4)
	wantInt(t, "LatestStart", 1, latest, ok)
	count, ok := impl.CountTideWays(exampleShore, exampleTide, 1, 1, 3)
	wantInt(t, "CountTideWays", 1, count, ok)
	starts, ok := impl.StartsWithin(exampleShore, exampleTide, 1, 3)
	wantList(t, "StartsWithin 3", []int{1}, starts, ok)
	leap, ok := impl.LeastTideLeap(exampleShore, exampleTide)
	wantInt(t, "LeastTideLeap", 1, leap, ok)
	highest, hour, ok := impl.HighestHour(exampleTide)
	wantTwo(t, "HighestHour", true, 3, 1, highest, hour, ok)
	shore, ok := impl.RaiseStone(exampleShore, 1, 7)
	wantText(t, "RaiseStone", "94", shore, ok)
	tide, ok := impl.TurnTide(exampleTide, 1)
	wantText(t, "TurnTide", "31", tide, ok)
	shore, ok = impl.MirrorShore(exampleShore)
	wantText(t, "MirrorShore", "42", shore, ok)
}

// Promise 7: on the smallest shores ways are told by all there are.
func TestAllWaysOfSmallestShores(t *testing.T) {
	for _, heights := range smallStrongs(2, "012") {
		for _, tide := range smallStrongs(3, "01") {
			for leap := 1; leap <= 3; leap++ {
				w := tideWalk{heights, tide, leap}
				for start := range len(tide) {
					checkAllWays(t, w, start)
				}
			}
		}
	}
}

func checkAllWays(t *testing.T, w tideWalk, start int) {
	t.Helper()
	isReached := false
	for hours := range 6 {
		what := fmt.Sprint(w, " ", start, " ", hours)
		var there [][]int
		count := 0
		for _, way := range w.ways(start, hours) {
			if way[hours] == w.far() {
				there = append(there, way)
				if slices.Index(way, w.far()) == hours {
					count++
				}
			}
			checkTideWay(t, w, start, way)
		}
		n, ok := impl.CountTideWays(w.heights, w.tide, w.leap, start, hours)
		wantInt(t, "CountTideWays "+what, count, n, ok)
		if len(there) > 0 && !isReached {
			isReached = true
			hour, ok := impl.EarliestAt(w.heights, w.tide, w.leap, start)
			wantInt(t, "EarliestAt "+what, start+hours, hour, ok)
			way, ok := impl.EarliestWay(w.heights, w.tide, w.leap, start)
			wantList(t, "EarliestWay "+what, there[0], way, ok)
		}
	}
}

// Promise 7: small shores at small tides.
func TestSmallShores(t *testing.T) {
	for _, heights := range smallStrongs(3, "0123") {
		checkShore(t, heights)
		for _, tide := range append(smallStrongs(2, "012"), "010", "021", "100", "122", "211", "0021", "1201", "2012") {
			checkTide(t, tide)
			checkDry(t, heights, tide)
			for _, leap := range []int{1, 2, 3, impl.MaxShore + 1} {
				w := tideWalk{heights, tide, leap}
				checkWalk(t, w)
				for start := range len(tide) {
					checkStart(t, w, start+len(tide)*(start%2))
				}
			}
		}
	}
}

// mixedShore returns a shore in which some places have no stone and the others are at least so high.
func mixedShore(row *mixedRow, places, least int) string {
	heights := ""
	for range places {
		height := 0
		if row.next(6) > 0 {
			height = least + row.next(10-least)
		}
		heights += fmt.Sprint(height)
	}
	return heights
}

func mixedTide(row *mixedRow, hours, most int) string {
	tide := ""
	for range hours {
		tide += fmt.Sprint(row.next(most + 1))
	}
	return tide
}

// Promise 7: shores up to MaxShore at tides up to MaxTide.
func TestMixedShores(t *testing.T) {
	row := &mixedRow{7}
	for i := range 60 {
		heights := mixedShore(row, 1+row.next(impl.MaxShore), row.next(6))
		tide := mixedTide(row, 1+row.next(impl.MaxTide), 9)
		if i%3 == 0 {
			heights, tide = mixedShore(row, impl.MaxShore-i%2, row.next(3)), mixedTide(row, impl.MaxTide-i%4, 5)
		}
		checkShore(t, heights)
		checkTide(t, tide)
		checkDry(t, heights, tide)
		least, _ := impl.LeastTideLeap(heights, tide)
		for _, leap := range []int{1, least - 1, least, least + 1, 1 + row.next(impl.MaxShore+1)} {
			if leap < 1 || leap > impl.MaxShore+1 {
				continue
			}
			w := tideWalk{heights, tide, leap}
			checkWalk(t, w)
			for _, start := range []int{0, 1, len(tide) - 1, row.next(impl.MaxHour + 1), impl.MaxHour - 1, impl.MaxHour} {
				checkStart(t, w, start)
			}
		}
	}
}

// A shore without a stone is crossed by leaps from bank to bank, and by no others.
func TestShoresWithoutStones(t *testing.T) {
	for places := 1; places <= impl.MaxShore; places++ {
		heights := strongOf(places, 0)
		checkShore(t, heights)
		for _, tide := range []string{"0", "9", "010", "123456789012"} {
			checkDry(t, heights, tide)
			for leap := 1; leap <= impl.MaxShore+1; leap++ {
				what := fmt.Sprint(heights, " ", tide, " ", leap)
				checkWalk(t, tideWalk{heights, tide, leap})
				checkStart(t, tideWalk{heights, tide, leap}, 5)
				arrivals := append(slices.Repeat([]int{-1}, places+1), 6)
				arrivals[0] = 5
				if leap <= places {
					arrivals[places+1] = -1
				}
				got, ok := impl.ArrivalsOf(heights, tide, leap, 5)
				wantList(t, "ArrivalsOf "+what, arrivals, got, ok)
				hours, start, ok := impl.FewestHours(heights, tide, leap)
				wantTwo(t, "FewestHours "+what, leap > places, 1, 0, hours, start, ok)
			}
			never, ok := impl.NeverDry(heights, tide)
			wantList(t, "NeverDry "+heights, nil, never, ok)
			leap, ok := impl.LeastTideLeap(heights, tide)
			wantInt(t, "LeastTideLeap "+heights, places+1, leap, ok)
		}
	}
}

func TestShoresOfOnePlace(t *testing.T) {
	for height := range 10 {
		heights := fmt.Sprint(height)
		checkShore(t, heights)
		for _, tide := range append(smallStrongs(1, "0123456789"), "01", "90", "55", "0123456789", "999999999998", "000000000009") {
			checkDry(t, heights, tide)
			for _, leap := range []int{1, 2, impl.MaxShore, impl.MaxShore + 1} {
				checkWalk(t, tideWalk{heights, tide, leap})
				for _, start := range []int{0, 1, 7, impl.MaxHour} {
					checkStart(t, tideWalk{heights, tide, leap}, start)
				}
			}
		}
	}
}

// At a tide of one hour all hours are the same: a shore is the river of its dry stones.
func TestTidesOfOneHour(t *testing.T) {
	row := &mixedRow{3}
	for i := range 60 {
		heights := mixedShore(row, 1+(i+8)%impl.MaxShore, 1)
		for level := range 10 {
			tide := fmt.Sprint(level)
			checkDry(t, heights, tide)
			river, _ := impl.DryAt(heights, tide, i)
			for _, leap := range []int{1, 2, 3, 5, impl.MaxShore + 1} {
				leaps, exists := impl.FewestLeaps(river, leap)
				hours, start, ok := impl.FewestHours(heights, tide, leap)
				wantTwo(t, fmt.Sprint("FewestHours ", heights, " ", tide, " ", leap), exists, leaps, 0, hours, start, ok)
				hour, ok := impl.EarliestAt(heights, tide, leap, i)
				wantIntOr(t, fmt.Sprint("EarliestAt ", heights, " ", tide, " ", leap), exists, i+leaps, hour, ok)
			}
			least, _ := impl.LeastLeap(river)
			leap, ok := impl.LeastTideLeap(heights, tide)
			wantInt(t, "LeastTideLeap "+heights+" "+tide, least, leap, ok)
		}
	}
}

// A stone as high as the water is under it; one that is higher by 1 is dry.
func TestWaterAsHighAsStones(t *testing.T) {
	for level := range 10 {
		tide := fmt.Sprint(level)
		for height := range 10 {
			heights := fmt.Sprint(height)
			want := "."
			if height > level {
				want = "o"
			}
			river, ok := impl.DryAt(heights, tide, 0)
			wantText(t, "DryAt "+heights+" "+tide, want, river, ok)
			is, ok := impl.IsTideWay(heights, tide, 1, 0, []int{0, 1, 2})
			wantBool(t, "IsTideWay "+heights+" "+tide, height > level, is, ok)
		}
	}
	never, ok := impl.NeverDry("0123456789", "5")
	wantList(t, "NeverDry at 5", []int{2, 3, 4, 5, 6}, never, ok)
	always, ok := impl.AlwaysDry("0123456789", "5")
	wantList(t, "AlwaysDry at 5", []int{7, 8, 9, 10}, always, ok)
}

// Stones that are dry at one hour of a tide alone, at all hours, and at none.
func TestStonesThatAreSeldomDry(t *testing.T) {
	for hours := 1; hours <= impl.MaxTide; hours++ {
		for low := range hours {
			tide := strings.Repeat("7", low) + "3" + strings.Repeat("7", hours-1-low)
			heights := "4037982"
			checkDry(t, heights, tide)
			dry, ok := impl.DryHours(heights, tide, 1)
			wantList(t, "DryHours of a stone that is dry once "+tide, []int{low}, dry, ok)
			never, ok := impl.NeverDry(heights, tide)
			wantList(t, "NeverDry "+tide, []int{3, 7}, never, ok)
			for leap := 1; leap <= 3; leap++ {
				checkWalk(t, tideWalk{heights, tide, leap})
				for start := range hours {
					checkStart(t, tideWalk{heights, tide, leap}, start)
				}
			}
		}
	}
	always, ok := impl.AlwaysDry("4037982", "777377777777")
	wantList(t, "AlwaysDry", []int{5, 6}, always, ok)
	// At one hour of twelve each second stone is under water.
	w := tideWalk{"9292929", "111111111118", 1}
	checkWalk(t, w)
	for start := range 25 {
		checkStart(t, w, start)
	}
}

// Leaps of 1, of MaxShore + 1, and those longer than the shore.
func TestLeapsOverShores(t *testing.T) {
	longest := strongOf(impl.MaxShore, 9)
	for _, heights := range []string{"1", "9", exampleShore, strongOf(5, 5), strongOf(impl.MaxShore, 0), strongOf(impl.MaxShore-1, 4), longest, "90909090909090", "12345678901234"} {
		for _, tide := range []string{"3", "38", "012345678987"} {
			for leap := 1; leap <= impl.MaxShore+1; leap++ {
				w := tideWalk{heights, tide, leap}
				checkWalk(t, w)
				checkStart(t, w, 2)
				if leap >= w.far() {
					way, ok := impl.EarliestWay(heights, tide, leap, 2)
					wantList(t, fmt.Sprint("EarliestWay ", w), []int{0, w.far()}, way, ok)
					start, ok := impl.LatestStart(heights, tide, leap, 9)
					wantInt(t, fmt.Sprint("LatestStart ", w), 8, start, ok)
				}
			}
		}
	}
	way, ok := impl.EarliestWay(longest, "0", 1, 0)
	wantList(t, "EarliestWay over the longest shore", firstNumbers(impl.MaxShore+2), way, ok)
	count, ok := impl.CountTideWays(longest, "0", impl.MaxShore+1, 0, 10)
	wantInt(t, "CountTideWays over the longest shore", int(math.Pow(15, 9)), count, ok)
}

// Starts and ends at 0 and at MaxHour: hours of ways go on behind MaxHour.
func TestFirstAndLastHours(t *testing.T) {
	for start, want := range map[int]int{0: 4, 1: 4, impl.MaxHour - 1: 1002, impl.MaxHour: 1004} {
		hour, ok := impl.EarliestAt(exampleShore, exampleTide, 1, start)
		wantInt(t, fmt.Sprint("EarliestAt from ", start), want, hour, ok)
		checkStart(t, tideWalk{exampleShore, exampleTide, 1}, start)
	}
	arrivals, ok := impl.ArrivalsOf(exampleShore, exampleTide, 1, impl.MaxHour)
	wantList(t, "ArrivalsOf from MaxHour", []int{1000, 1002, 1003, 1004}, arrivals, ok)
	way, ok := impl.EarliestWay(exampleShore, exampleTide, 1, impl.MaxHour)
	wantList(t, "EarliestWay from MaxHour", []int{0, 0, 1, 2, 3}, way, ok)
	is, ok := impl.IsTideWay(exampleShore, exampleTide, 1, impl.MaxHour, way)
	wantBool(t, "IsTideWay from MaxHour", true, is, ok)
	count, ok := impl.CountTideWays(exampleShore, exampleTide, 1, impl.MaxHour, 4)
	wantInt(t, "CountTideWays from MaxHour", 1, count, ok)
	river, ok := impl.DryAt(exampleShore, "113", impl.MaxHour)
	wantText(t, "DryAt MaxHour", "oo", river, ok)
	river, ok = impl.DryAt(exampleShore, "131", impl.MaxHour)
	wantText(t, "DryAt MaxHour at high water", ".o", river, ok)
	for end, want := range map[int]int{0: -1, 1: -1, 2: -1, 3: -1, 4: 1, 5: 1, 6: 3, impl.MaxHour - 1: 995, impl.MaxHour: 997} {
		start, ok := impl.LatestStart(exampleShore, exampleTide, 1, end)
		wantIntOr(t, fmt.Sprint("LatestStart by ", end), want >= 0, want, start, ok)
	}
	starts, ok := impl.StartsWithin(exampleShore, exampleTide, 1, impl.MaxHour)
	wantList(t, "StartsWithin MaxHour", []int{0, 1}, starts, ok)
}

// An end before any start at which one could be there is reached from none, though a later one is.
func TestEndsBeforeAnyStart(t *testing.T) {
	// The stone is dry at the hours 5, 11, 17, .. alone.
	for end, want := range map[int]int{0: -1, 1: -1, 4: -1, 5: -1, 6: 4, 7: 4, 11: 4, 12: 10, 13: 10, 1000: 994} {
		start, ok := impl.LatestStart("5", "999991", 1, end)
		wantIntOr(t, fmt.Sprint("LatestStart by ", end), want >= 0, want, start, ok)
	}
	for end := range 20 {
		start, ok := impl.LatestStart("000", "0", 4, end)
		wantIntOr(t, fmt.Sprint("LatestStart of one leap by ", end), end > 0, end-1, start, ok)
	}
}

// Ways that have to wait, at the bank and on stones, and ways that leap back.
func TestWaysThatWaitOrLeapBack(t *testing.T) {
	cases := []struct {
		heights, tide string
		leap, start   int
		way           []int
	}{
		{"5", "999991", 1, 0, []int{0, 0, 0, 0, 0, 1, 2}},
		{"5", "999991", 1, 5, []int{0, 0, 0, 0, 0, 0, 1, 2}},
		{"5", "999991", 1, 4, []int{0, 1, 2}},
		{"92", "0005", 1, 1, []int{0, 0, 1, 2, 3}},
		{"92", "00055555", 1, 6, []int{0, 1, 2, 3}},
		{"292", "1185", 1, 0, []int{0, 1, 2, 2, 3, 4}},
		{"02022910", "911510", 2, 0, []int{0, 2, 4, 6, 5, 7, 9}},
		{"020209010", "91151109", 2, 0, []int{0, 2, 4, 6, 4, 6, 8, 10}},
		{"524924", "231104", 1, 0, []int{0, 0, 1, 2, 3, 4, 3, 4, 5, 6, 7}},
		{"1139321", "0300211", 1, 0, []int{0, 0, 1, 2, 3, 3, 3, 3, 4, 3, 3, 4, 5, 6, 7, 8}},
		{"33242232", "321010310", 1, 0, []int{0, 0, 0, 1, 2, 3, 4, 3, 3, 4, 4, 5, 6, 7, 8, 9}},
	}
	for _, c := range cases {
		w := tideWalk{c.heights, c.tide, c.leap}
		checkWalk(t, w)
		checkStart(t, w, c.start)
		way, ok := impl.EarliestWay(c.heights, c.tide, c.leap, c.start)
		wantList(t, fmt.Sprint("EarliestWay ", w, " ", c.start), c.way, way, ok)
	}
}

// One comes to a place first by leaping back, from a stone or even from the far bank.
func TestArrivalsByLeapingBack(t *testing.T) {
	arrivals, ok := impl.ArrivalsOf("0219", "9150", 2, 0)
	wantList(t, "ArrivalsOf by leaping back from a stone", []int{0, -1, 1, 3, 2, 3}, arrivals, ok)
	arrivals, ok = impl.ArrivalsOf("011", "9050", 2, 0)
	wantList(t, "ArrivalsOf by leaping back from the far bank", []int{0, -1, 1, 3, 2}, arrivals, ok)
	checkTideWay(t, tideWalk{"011", "9050", 2}, 0, []int{0, 2, 4, 3, 4})
}

// Where the far bank cannot be reached, the calls for ways fail, and the others tell so.
func TestFarBankOutOfReach(t *testing.T) {
	cases := []struct {
		heights, tide string
		leap          int
		arrivals      []int
	}{
		{"0", "0", 1, []int{100, -1, -1}},
		{"5", "5", 1, []int{100, -1, -1}},
		{"909", "1", 1, []int{100, 101, -1, -1, -1}},
		{"9009", "37", 2, []int{100, 101, -1, -1, -1, -1}},
		{"22", "13", 1, []int{100, 102, -1, -1}},
		{"10009", "030", 3, []int{100, 101, -1, -1, -1, -1, -1}},
		{"49991", "133", 1, []int{100, 101, 102, 103, 104, -1, -1}},
		{"99999999999990", "8", 1, []int{100, 101, 102, 103, 104, 105, 106, 107, 108, 109, 110, 111, 112, 113, -1, -1}},
	}
	for _, c := range cases {
		w := tideWalk{c.heights, c.tide, c.leap}
		checkWalk(t, w)
		checkStart(t, w, 100)
		arrivals, ok := impl.ArrivalsOf(c.heights, c.tide, c.leap, 100)
		wantList(t, fmt.Sprint("ArrivalsOf ", w), c.arrivals, arrivals, ok)
	}
	requireFailures(t, "no way", tideCalls("809", "1", goodTideNumbers()), "EarliestAt", "EarliestWay", "FewestHours", "LatestStart")
}

// Promise 7: ways are told apart from all other lists of numbers.
func TestListsThatAreTideWays(t *testing.T) {
	lists := append(listsOf(5, 0, 1, 2, 3), listsOf(4, -1, 0, 1, 2, 3, 4)...)
	for _, way := range lists {
		for _, w := range []tideWalk{{"9", "8", 1}, {"9", "09", 1}, {"3", "24", 2}, {exampleShore, exampleTide, 1}, {exampleShore, exampleTide, 2}, {"00", "0", 3}, {"90", "5", 2}, {exampleShore, "99", 15}} {
			checkTideWay(t, w, 0, way)
			checkTideWay(t, w, 1, way)
		}
	}
	cases := []struct {
		way  []int
		want bool
	}{
		{[]int{0, 0, 1, 2, 3}, true}, {[]int{0, 0, 0, 0, 1, 2, 3}, true},
		{nil, false}, {[]int{}, false}, {[]int{0}, false}, {[]int{3}, false}, {[]int{0, 3}, false},
		{[]int{1, 0, 1, 2, 3}, false}, {[]int{-1, 0, 1, 2, 3}, false}, {[]int{0, 1, 1, 2, 3}, false}, {[]int{0, 0, 2, 2, 3}, false}, {[]int{0, 0, 1, 2, 2}, false}, {[]int{0, 0, 1, 1, 3}, false}, {[]int{0, 0, 1, 2, 4}, false}, {[]int{0, 0, 1, 2, 3, 4}, false}, {[]int{0, 0, 1, 2, 3, 2}, false},
		{[]int{0, 0, 1, 2, 3, 3}, true}, {[]int{0, 0, 1, 2, 3, 2, 3}, true}, {[]int{0, 0, 1, 2, 3, 3, 3, 2, 2, 2, 3}, true}, {[]int{0, 0, 1, 2, 1, 2, 3}, true}, {[]int{0, 0, 1, 2, 2, 1, 2, 3}, false}, {[]int{0, 0, 1, 0, 1, 2, 3}, true},
	}
	for _, c := range cases {
		is, ok := impl.IsTideWay(exampleShore, exampleTide, 1, 0, c.way)
		wantBool(t, fmt.Sprint("IsTideWay ", c.way), c.want, is, ok)
	}
}

// Promise 7: lists of up to MaxHour numbers are looked at, and no longer ones; numbers may be as great as can be.
func TestLongTideWays(t *testing.T) {
	w := tideWalk{exampleShore, exampleTide, 1}
	for _, length := range []int{5, 7, 501, impl.MaxHour - 1, impl.MaxHour, impl.MaxHour + 1, impl.MaxHour + 2, 100001} {
		waits := append(make([]int, length-4), 0, 1, 2, 3)
		stays := append([]int{0, 1, 2}, slices.Repeat([]int{3}, length-3)...)
		ways := 0
		for _, way := range [][]int{waits, stays, make([]int, length)} {
			for _, start := range []int{0, 1, impl.MaxHour - 1, impl.MaxHour} {
				is, ok := impl.IsTideWay(w.heights, w.tide, w.leap, start, way)
				isShort := length <= impl.MaxHour
				if is != (isShort && w.isWay(start, way)) || ok != isShort {
					t.Error("IsTideWay of", length, "numbers from", start, is, ok)
				}
				if is {
					ways++
				}
			}
		}
		if length <= impl.MaxHour && ways != 4 {
			t.Error("there are", ways, "ways of", length, "numbers")
		}
	}
	for _, odd := range append(oddNumbers, 3, 4, 5, 16, math.MinInt+2) {
		for i := range 5 {
			way := []int{0, 0, 1, 2, 3}
			way[i] = odd
			checkTideWay(t, w, 0, way)
			checkTideWay(t, w, 0, slices.Insert([]int{0, 0, 1, 2, 3}, i, odd, odd))
			checkTideWay(t, w, 0, slices.Insert([]int{0, 0, 1, 2, 3}, i, math.MaxInt, odd, math.MinInt))
		}
		checkTideWay(t, w, 0, []int{odd})
		checkTideWay(t, w, 1, []int{0, odd, 3})
	}
}

// 0 hours are too few for any way; 10 are counted, and no more.
func TestNoHoursAndTenHours(t *testing.T) {
	for _, heights := range []string{"0", "9", exampleShore, strongOf(impl.MaxShore, 9)} {
		for _, leap := range []int{1, 3, impl.MaxShore + 1} {
			starts, ok := impl.StartsWithin(heights, exampleTide, leap, 0)
			wantList(t, "StartsWithin 0 "+heights, nil, starts, ok)
			count, ok := impl.CountTideWays(heights, exampleTide, leap, 0, 0)
			wantInt(t, "CountTideWays of 0 "+heights, 0, count, ok)
			for _, hours := range []int{-1, 11, 12, impl.MaxHour} {
				count, ok := impl.CountTideWays(heights, exampleTide, leap, 0, hours)
				wantIntOr(t, fmt.Sprint("CountTideWays of ", hours, " ", heights), false, 0, count, ok)
			}
		}
	}
	// One is at the stone or at the bank in each of nine hours between.
	count, ok := impl.CountTideWays("9", "0", 2, 0, 10)
	wantInt(t, "CountTideWays of 10", 512, count, ok)
	count, ok = impl.CountTideWays("9", "0", 1, 0, 10)
	wantInt(t, "CountTideWays of 10 by leaps of 1", 256, count, ok)
	count, ok = impl.CountTideWays(strongOf(9, 9), "0", 1, 0, 10)
	wantInt(t, "CountTideWays of 10 without a wait", 1, count, ok)
	count, ok = impl.CountTideWays(strongOf(10, 9), "0", 1, 0, 10)
	wantInt(t, "CountTideWays of 10 over too many places", 0, count, ok)
}

// The first one of several starts, and of several hours with high water, is told.
func TestFirstOfSeveralHours(t *testing.T) {
	for tide, want := range map[string][2]int{"0": {0, 0}, "9": {9, 0}, "000": {0, 0}, "1331": {3, 1}, "9009": {9, 0}, "012345678909": {9, 9}, "000000000001": {1, 11}, "111111111111": {1, 0}} {
		highest, hour, ok := impl.HighestHour(tide)
		wantTwo(t, "HighestHour "+tide, true, want[0], want[1], highest, hour, ok)
	}
	cases := []struct {
		heights, tide string
		leap          int
		needed        []int
	}{
		{"5", "1", 1, []int{2}}, {"5", "51", 1, []int{2, 3}}, {"5", "15", 1, []int{3, 2}}, {"5", "1551", 1, []int{4, 3, 2, 2}}, {"5", "5151", 1, []int{2, 3, 2, 3}}, {"55", "115", 1, []int{5, 4, 3}}, {"55", "115", 2, []int{2, 3, 2}},
	}
	for _, c := range cases {
		w := tideWalk{c.heights, c.tide, c.leap}
		if needed := w.needed(); !slices.Equal(needed, c.needed) {
			t.Error("hours are told wrongly:", w, needed)
		}
		checkWalk(t, w)
	}
}

func TestRaisedStones(t *testing.T) {
	for height := range 10 {
		for by := -1; by <= 11; by++ {
			for place := 1; place <= impl.MaxShore; place++ {
				heights := strongOf(place-1, 3) + fmt.Sprint(height) + strongOf(impl.MaxShore-place, 8)
				checkRaised(t, heights, place, by)
			}
		}
	}
	for heights, want := range map[string]string{"000": "070", "121": "191", "222": "292", "333": "", "999": ""} {
		shore, ok := impl.RaiseStone(heights, 2, 7)
		wantTextOr(t, "RaiseStone "+heights, want != "", want, shore, ok)
	}
}

// noHeights returns texts that are neither shores nor tides.
func noHeights() []string {
	return []string{
		"", "o", ".", ".o..o", "a", "24a", "a24", "2a4", "2 4", " 24", "24 ", "24\n", "\n", "\x00", "2\x004", "-1", "+1", "1-1", "2,4", "2.4", "1e1", "0x1", "1_1", "/", ":", "2/4", "2:4", "٣", "３", "²", "2\xff4", "\xff", "2\x804", "²24", "24³", strongOf(100000, 9),
	}
}

// tideNumbers are what calls are given beside a shore and a tide, each in its bounds unless a test sets it otherwise.
type tideNumbers struct {
	leap, hour, place, start, hours, end, count, by, turn int
	way                                                   []int
}

func goodTideNumbers() tideNumbers {
	return tideNumbers{1, 1, 1, 0, 4, 4, 4, 1, 0, []int{0, 0, 1, 2, 3}}
}

// tideCalls returns all calls of chapter 7 with a shore and a tide, told by the results that should be zero if it fails.
func tideCalls(heights, tide string, n tideNumbers) map[string]string {
	told := map[string]string{}
	tell := func(name string, isZero, ok bool, results ...any) {
		if told[name] = fmt.Sprintf("%q %v", results, ok); isZero {
			told[name] = fmt.Sprint(0, ok)
		}
	}
	number := func(name string, k int, ok bool) { tell(name, k == 0, ok, k) }
	two := func(name string, k, m int, ok bool) { tell(name, k == 0 && m == 0, ok, k, m) }
	list := func(name string, l []int, ok bool) { tell(name, len(l) == 0, ok, l) }
	text := func(name, s string, ok bool) { tell(name, s == "", ok, s) }
	s, ok := impl.DryAt(heights, tide, n.hour)
	text("DryAt", s, ok)
	l, ok := impl.DryHours(heights, tide, n.place)
	list("DryHours", l, ok)
	l, ok = impl.AlwaysDry(heights, tide)
	list("AlwaysDry", l, ok)
	l, ok = impl.NeverDry(heights, tide)
	list("NeverDry", l, ok)
	k, ok := impl.EarliestAt(heights, tide, n.leap, n.start)
	number("EarliestAt", k, ok)
	l, ok = impl.EarliestWay(heights, tide, n.leap, n.start)
	list("EarliestWay", l, ok)
	l, ok = impl.ArrivalsOf(heights, tide, n.leap, n.start)
	list("ArrivalsOf", l, ok)
	is, ok := impl.IsTideWay(heights, tide, n.leap, n.start, n.way)
	told["IsTideWay"] = fmt.Sprint(is, ok)
	k, m, ok := impl.FewestHours(heights, tide, n.leap)
	two("FewestHours", k, m, ok)
	l, ok = impl.StartsWithin(heights, tide, n.leap, n.hours)
	list("StartsWithin", l, ok)
	k, ok = impl.LatestStart(heights, tide, n.leap, n.end)
	number("LatestStart", k, ok)
	k, ok = impl.CountTideWays(heights, tide, n.leap, n.start, n.count)
	number("CountTideWays", k, ok)
	k, ok = impl.LeastTideLeap(heights, tide)
	number("LeastTideLeap", k, ok)
	k, m, ok = impl.HighestHour(tide)
	two("HighestHour", k, m, ok)
	s, ok = impl.RaiseStone(heights, n.place, n.by)
	text("RaiseStone", s, ok)
	s, ok = impl.TurnTide(tide, n.turn)
	text("TurnTide", s, ok)
	s, ok = impl.MirrorShore(heights)
	text("MirrorShore", s, ok)
	return told
}

// Promise 11: texts that are no shores, or no tides, make all calls with them fail with zero values, and no others.
func TestTextsThatAreNoShoresOrTides(t *testing.T) {
	good := tideCalls(exampleShore, exampleTide, goodTideNumbers())
	requireFailures(t, "good texts", good)
	var names, withShore, withTide []string
	for name := range good {
		names = append(names, name)
		if name != "HighestHour" && name != "TurnTide" {
			withShore = append(withShore, name)
		}
		if name != "RaiseStone" && name != "MirrorShore" {
			withTide = append(withTide, name)
		}
	}
	leapOver := goodTideNumbers()
	leapOver.leap = impl.MaxShore + 1
	longShores := []string{strongOf(impl.MaxShore+1, 0), strongOf(impl.MaxShore+1, 5)}
	longTides := []string{strongOf(impl.MaxTide+1, 0), strongOf(impl.MaxTide+1, 5), strongOf(impl.MaxShore, 5)}
	for _, n := range []tideNumbers{goodTideNumbers(), leapOver} {
		for _, text := range append(noHeights(), longShores...) {
			what := fmt.Sprintf("%.30q", text)
			n.way = []int{0, len(text) + 1}
			if impl.IsShore(text) {
				t.Error("IsShore", what)
			}
			requireFailures(t, "the shore "+what, tideCalls(text, exampleTide, n), withShore...)
		}
		for _, text := range append(noHeights(), longTides...) {
			what := fmt.Sprintf("%.30q", text)
			if impl.IsTide(text) {
				t.Error("IsTide", what)
			}
			requireFailures(t, "the tide "+what, tideCalls(exampleShore, text, n), withTide...)
		}
		for _, text := range noHeights() {
			requireFailures(t, fmt.Sprintf("both %.30q", text), tideCalls(text, text, n), names...)
		}
	}
}

// Promise 11: a byte other than a digit anywhere makes a text none.
func TestBytesOfShoresAndTides(t *testing.T) {
	for b := range 256 {
		for _, around := range []string{"|", "2|", "|4", "2|4", "2468|", strongOf(6, 1) + "|" + strongOf(5, 0)} {
			text := strings.Replace(around, "|", string([]byte{byte(b)}), 1)
			want := '0' <= b && b <= '9'
			if impl.IsShore(text) != want || impl.IsTide(text) != want {
				t.Errorf("IsShore or IsTide of %q is not %v", text, want)
			}
		}
	}
	for digits := range 30 {
		text := strongOf(digits, 3)
		if impl.IsShore(text) != (1 <= digits && digits <= impl.MaxShore) || impl.IsTide(text) != (1 <= digits && digits <= impl.MaxTide) {
			t.Error("IsShore or IsTide tells otherwise of", digits, "digits")
		}
	}
}

// Promise 11: numbers out of their bounds make the calls with them fail with zero values, and no others.
func TestTideNumbersOutOfBounds(t *testing.T) {
	heights, tide := strongOf(impl.MaxShore, 4), "222222222223"
	withStart := []string{"EarliestAt", "EarliestWay", "ArrivalsOf", "IsTideWay", "CountTideWays"}
	kinds := []struct {
		name        string
		least, most int
		set         func(n *tideNumbers, to int)
		failing     []string
	}{
		{"leaps", 1, impl.MaxShore + 1, func(n *tideNumbers, to int) { n.leap = to }, append([]string{"FewestHours", "StartsWithin", "LatestStart"}, withStart...)},
		{"an hour", 0, impl.MaxHour, func(n *tideNumbers, to int) { n.hour = to }, []string{"DryAt"}},
		{"a place", 1, impl.MaxShore, func(n *tideNumbers, to int) { n.place = to }, []string{"DryHours", "RaiseStone"}},
		{"a start", 0, impl.MaxHour, func(n *tideNumbers, to int) { n.start = to }, withStart},
		{"hours", 0, impl.MaxHour, func(n *tideNumbers, to int) { n.hours = to }, []string{"StartsWithin"}},
		{"an end", 4, impl.MaxHour, func(n *tideNumbers, to int) { n.end = to }, []string{"LatestStart"}},
		{"hours to count", 0, 10, func(n *tideNumbers, to int) { n.count = to }, []string{"CountTideWays"}},
		{"by", 1, 5, func(n *tideNumbers, to int) { n.by = to }, []string{"RaiseStone"}},
		{"a turn", 0, impl.MaxTide - 1, func(n *tideNumbers, to int) { n.turn = to }, []string{"TurnTide"}},
	}
	for _, kind := range kinds {
		for _, to := range append(oddNumbers, 3, 4, 5, 6, 8, 9, 10, 11, 12, 13, 14, 15, 16, 999, 1000, 1001, 1002) {
			// By leaps of 4 one needs 4 hours over the shore.
			n := goodTideNumbers()
			n.leap = 4
			kind.set(&n, to)
			failing := kind.failing
			if kind.least <= to && to <= kind.most {
				failing = nil
			}
			// By shorter ones one needs more.
			if kind.name == "leaps" && 1 <= to && to < 4 {
				n.end = 50
			}
			requireFailures(t, fmt.Sprint(kind.name, " ", to), tideCalls(heights, tide, n), failing...)
		}
	}
	for _, by := range append(oddNumbers, 8, 9, 10) {
		shore, ok := impl.RaiseStone("0", 1, by)
		wantTextOr(t, fmt.Sprint("RaiseStone by ", by), 1 <= by && by <= 9, fmt.Sprint(by), shore, ok)
	}
}

// Promise 11: no call panics, whatever is put together, and no call changes a later one.
func TestTideCallsAreTotal(t *testing.T) {
	texts := append(noHeights(), "0", "9", exampleShore, exampleTide, "909", strongOf(impl.MaxShore, 0), strongOf(impl.MaxShore, 9), strongOf(impl.MaxShore+1, 9), strongOf(impl.MaxTide, 8), "012345678987")
	for i, x := range oddNumbers {
		for k, y := range oddNumbers {
			n := tideNumbers{x, y, x, y, x, y, x, y, x, []int{0, x, y, 3}}
			for _, heights := range []string{texts[i%len(texts)], texts[(i+k)%len(texts)], exampleShore, strongOf(impl.MaxShore, 9)} {
				for _, tide := range []string{texts[(3*i+k)%len(texts)], exampleTide, "012345678987"} {
					first, again := tideCalls(heights, tide, n), tideCalls(heights, tide, n)
					for name, told := range first {
						if told != again[name] {
							t.Errorf("%s %.30q %.30q %v: %s, then %s", name, heights, tide, n, told, again[name])
						}
					}
				}
			}
		}
	}
}

// Promise 11: a list stays as it is, and so does the room behind it.
func TestTideArgumentsAreNotChanged(t *testing.T) {
	for _, way := range [][]int{{}, {0}, {0, 3}, {0, 1, 2}, {0, 0, 1, 2}, {0, 0, 1, 2, 3}, {0, 0, 1, 2, 3, 3}, {3, 2, 1, 0, 0}, {math.MinInt, math.MaxInt}, make([]int, impl.MaxHour+1)} {
		for _, heights := range []string{exampleShore, "no shore"} {
			n := goodTideNumbers()
			n.way = withRoom(way)
			told := tideCalls(heights, exampleTide, n)
			if !isUntouched(n.way, way) {
				t.Error("a call changes", way)
			}
			n.way = slices.Clip(slices.Clone(way))
			for name, want := range tideCalls(heights, exampleTide, n) {
				if told[name] != want {
					t.Errorf("%s %s %v with room: %s, want %s", name, heights, way, told[name], want)
				}
			}
		}
	}
}

// Promise 11: lists that are returned are new memory.
func TestTideResultsAreNew(t *testing.T) {
	wantNewLists(t, map[string]func() ([]int, bool){
		"DryHours":     func() ([]int, bool) { return impl.DryHours("914", exampleTide, 3) },
		"AlwaysDry":    func() ([]int, bool) { return impl.AlwaysDry("9194", exampleTide) },
		"NeverDry":     func() ([]int, bool) { return impl.NeverDry("9191", exampleTide) },
		"EarliestWay":  func() ([]int, bool) { return impl.EarliestWay(exampleShore, exampleTide, 1, 0) },
		"ArrivalsOf":   func() ([]int, bool) { return impl.ArrivalsOf(exampleShore, exampleTide, 1, 0) },
		"StartsWithin": func() ([]int, bool) { return impl.StartsWithin(exampleShore, exampleTide, 1, 4) },
	})
}

// Promise 11: a text that is returned is new memory even if it has the digits of the argument.
func TestTideTextsAreNew(t *testing.T) {
	cases := map[string]func(text string) (string, bool){
		"TurnTide":    func(tide string) (string, bool) { return impl.TurnTide(tide, 0) },
		"MirrorShore": impl.MirrorShore,
	}
	for name, call := range cases {
		for _, digits := range []string{"3", "131", "242242"} {
			given := strings.Clone(digits)
			text, ok := call(given)
			if text != given || !ok || unsafe.StringData(text) == unsafe.StringData(given) {
				t.Errorf("%s hands out its argument, or another text: %q %v", name, text, ok)
			}
		}
	}
}
