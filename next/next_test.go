package next

import (
	"math"
	"math/rand"
	"slices"
	"testing"
	"time"

	"tompion/api"
	"tompion/civil"
	"tompion/cron"
)

const (
	day = 86400
	// last: the last second of 9999, as the library's own calendar has it too (TestLastIsTheLibrarys).
	last = 253402300799
	// lastMinute: the last second that is a whole minute.
	lastMinute = last - 59
)

// at: the second of a date and a time of the day, by the library's calendar.
func at(year, month, day, hour, minute int) int {
	return int(time.Date(year, time.Month(month), day, hour, minute, 0, 0, time.UTC).Unix())
}

// parse: the spec of a text that is one.
func parse(t *testing.T, text string) api.Spec {
	t.Helper()
	x, e := cron.Parse(text)
	if e != api.OK {
		t.Fatalf("Parse(%q): %d", text, e)
	}
	return x
}

func hasBit(set uint64, number int) bool { return set&(1<<number) != 0 }

// onDay: whether a spec is on a day, as the document says it, by the library's calendar.
func onDay(x api.Spec, own time.Time) bool {
	dom, dow := hasBit(x.Dom, own.Day()), hasBit(x.Dow, int(own.Weekday()))
	if x.AnyDom || x.AnyDow {
		return hasBit(x.Mon, int(own.Month())) && dom && dow
	}
	return hasBit(x.Mon, int(own.Month())) && (dom || dow)
}

// isAt: whether a spec that is right is at a second, as the document says it, by the library's calendar.
func isAt(x api.Spec, second int) bool {
	if second < 0 || second > last || second%60 != 0 {
		return false
	}
	own := time.Unix(int64(second+60*x.Ahead), 0).UTC()
	return own.Year() >= 1970 && own.Year() <= 9999 && onDay(x, own) && hasBit(x.Hour, own.Hour()) && hasBit(x.Min, own.Minute())
}

// allOf: the times of a spec that is right, from from to to, each minute asked for.
func allOf(x api.Spec, from, to int) []int {
	var times []int
	for second := (from + 59) / 60 * 60; second <= to; second += 60 {
		if isAt(x, second) {
			times = append(times, second)
		}
	}
	return times
}

func checkNext(t *testing.T, x api.Spec, after, want int) {
	t.Helper()
	if got, ok := Next(x, after); got != want || !ok {
		t.Fatalf("Next(%+v, %d): %d, %v, want %d, true", x, after, got, ok, want)
	}
}

func checkNone(t *testing.T, x api.Spec, after int) {
	t.Helper()
	if got, ok := Next(x, after); got != 0 || ok {
		t.Fatalf("Next(%+v, %d): %d, %v, want 0, false", x, after, got, ok)
	}
}

func checkIs(t *testing.T, x api.Spec, second int, want bool) {
	t.Helper()
	if got := Is(x, second); got != want {
		t.Fatalf("Is(%+v, %d): %v, want %v", x, second, got, want)
	}
}

func checkBetween(t *testing.T, x api.Spec, from, to, most int, want ...int) {
	t.Helper()
	if got := Between(x, from, to, most); !slices.Equal(got, want) {
		t.Fatalf("Between(%+v, %d, %d, %d): %d, want %d", x, from, to, most, got, want)
	}
}

// checkSpan: Is, Next and Between of a spec that is right, from from to to, against each minute of the library's calendar.
func checkSpan(t *testing.T, x api.Spec, from, to int) {
	t.Helper()
	want := allOf(x, from, to)
	checkBetween(t, x, from, to, math.MaxInt, want...)
	for second := (from + 59) / 60 * 60; second <= to; second += 60 {
		checkIs(t, x, second, isAt(x, second))
		checkIs(t, x, second-1, false)
		checkIs(t, x, second+1, false)
	}
	after := from - 1
	for _, w := range want {
		checkNext(t, x, after, w)
		checkNext(t, x, w-1, w)
		after = w
	}
	if got, ok := Next(x, after); ok && got <= to {
		t.Fatalf("Next(%+v, %d): %d, where there is none up to %d", x, after, got, to)
	}
}

// wrongSpecs: specs that aren't right, each by one thing alone.
func wrongSpecs(t *testing.T) []api.Spec {
	all := []api.Spec{{}, {AnyDom: true, AnyDow: true}, {Min: math.MaxUint64, Hour: math.MaxUint64, Dom: math.MaxUint64, Mon: math.MaxUint64, Dow: math.MaxUint64}}
	for _, spoil := range []func(x *api.Spec){
		func(x *api.Spec) { x.Min = 0 },
		func(x *api.Spec) { x.Hour = 0 },
		func(x *api.Spec) { x.Dom = 0 },
		func(x *api.Spec) { x.Mon = 0 },
		func(x *api.Spec) { x.Dow = 0 },
		func(x *api.Spec) { x.Min |= 1 << 60 },
		func(x *api.Spec) { x.Hour |= 1 << 24 },
		func(x *api.Spec) { x.Dom |= 1 },
		func(x *api.Spec) { x.Dom |= 1 << 32 },
		func(x *api.Spec) { x.Mon |= 1 },
		func(x *api.Spec) { x.Mon |= 1 << 13 },
		func(x *api.Spec) { x.Dow |= 1 << 7 },
		func(x *api.Spec) { x.Ahead = 900 },
		func(x *api.Spec) { x.Ahead = -900 },
		func(x *api.Spec) { x.Ahead = 1 << 32 },
		func(x *api.Spec) { x.Ahead = math.MaxInt },
		func(x *api.Spec) { x.Ahead = math.MinInt },
	} {
		for _, text := range []string{"* * * * *", "0 0 1 1 0"} {
			x := parse(t, text)
			spoil(&x)
			all = append(all, x)
		}
	}
	return all
}

// beyond: seconds that the calendar doesn't have, near its ends and far from them.
func beyond() []int {
	return []int{-1, -59, -60, -61, -day, -day - 60, -1 << 32, -1 << 40, math.MinInt, math.MinInt + 1, math.MinInt + 8, math.MinInt / 60 * 60,
		last + 1, last + 2, last + 60, last + 61, last + 1 + day, 1 << 40, 1 << 62, math.MaxInt, math.MaxInt - 1, math.MaxInt / 60 * 60}
}

// P5.1: the calendar ends where the tests say.
func TestLastIsTheLibrarys(t *testing.T) {
	if at(10000, 1, 1, 0, 0)-1 != last || civil.Last() != last {
		t.Fatal(at(10000, 1, 1, 0, 0), civil.Last())
	}
}

// P5.1: the document's examples.
func TestExamples(t *testing.T) {
	checkNext(t, parse(t, "0 0 29 2 *"), at(2001, 1, 1, 0, 0), at(2004, 2, 29, 0, 0))
	checkNone(t, parse(t, "0 0 30 2 *"), 0)
	x := parse(t, "30 10 * * * +0100")
	checkIs(t, x, at(2020, 5, 5, 9, 30), true)
	checkIs(t, x, at(2020, 5, 5, 10, 30), false)
	checkNext(t, x, at(2020, 5, 5, 0, 0), at(2020, 5, 5, 9, 30))
	x = parse(t, "0 0 13 * 5")
	for _, n := range []int{6, 13, 20, 27} {
		checkNext(t, x, at(2024, 9, n-1, 12, 0), at(2024, 9, n, 0, 0))
	}
	checkNext(t, x, at(2024, 10, 11, 0, 0), at(2024, 10, 13, 0, 0))
	x = parse(t, "* * * * *")
	checkNext(t, x, at(2024, 9, 2, 10, 0)+day, at(2024, 9, 3, 10, 1))
}

// P5.1: the seconds at both ends of the calendar, and beside a whole minute.
func TestSecondsOfEachMinute(t *testing.T) {
	x := parse(t, "* * * * *")
	for second := -200; second <= 200; second++ {
		checkIs(t, x, second, second >= 0 && second%60 == 0)
		if second >= 0 {
			checkNext(t, x, second, second/60*60+60)
		}
	}
	for second := last - 200; second <= last+200; second++ {
		checkIs(t, x, second, second <= last && second%60 == 0)
		if second < lastMinute {
			checkNext(t, x, second, second/60*60+60)
		} else {
			checkNone(t, x, second)
		}
	}
	for _, second := range beyond() {
		checkIs(t, x, second, false)
	}
}

// P5.1: an after below 0 is as -1, however far it is below.
func TestAfterBelowZero(t *testing.T) {
	for _, c := range []struct {
		text string
		want int
	}{
		{"* * * * *", 0}, {"0 0 1 1 *", 0}, {"0 0 1 1 4", 0}, {"1 0 * * *", 60}, {"0 1 * * *", 3600}, {"0 0 2 1 *", day}, {"0 0 * * 3", 6 * day},
		{"* * * * * -1459", 899 * 60}, {"* * * * * +1459", 0}, {"0 0 1 1 * +0001", at(1970, 12, 31, 23, 59)}, {"0 0 1 1 * -0001", 60},
	} {
		for _, after := range beyond() {
			if after < 0 {
				checkNext(t, parse(t, c.text), after, c.want)
			}
		}
	}
}

// P5.1: an after that is a time, just ahead of one, and just behind one.
func TestAfterBesideTimes(t *testing.T) {
	x := parse(t, "0 12 * * *")
	noon, next := at(2026, 11, 18, 12, 0), at(2026, 11, 19, 12, 0)
	for _, ahead := range []int{1, 2, 59, 60, 61, 3600, 12 * 3600, day - 1, day} {
		checkNext(t, x, noon-ahead, noon)
	}
	for _, behind := range []int{0, 1, 2, 59, 60, 61, 3600, 12*3600 - 1, 12 * 3600, 12*3600 + 1, day - 1} {
		checkNext(t, x, noon+behind, next)
	}
}

// P5.1: behind the last time there is none.
func TestAfterBehindTheLastTime(t *testing.T) {
	for _, c := range []struct {
		text string
		at   int
	}{
		{"* * * * *", lastMinute}, {"59 23 31 12 *", lastMinute}, {"0 0 31 12 *", lastMinute - 1439*60}, {"0 0 1 1 *", at(9999, 1, 1, 0, 0)},
		{"0 0 29 2 *", at(9996, 2, 29, 0, 0)}, {"0 0 31 * 5", at(9999, 12, 31, 0, 0)}, {"5 5 * * 4", at(9999, 12, 30, 5, 5)},
		{"* * * * * +0001", lastMinute - 60}, {"* * * * * +1459", lastMinute - 899*60}, {"* * * * * -1459", lastMinute},
		{"59 23 31 12 * +0001", lastMinute - 60}, {"59 23 31 12 * -0001", at(9999, 1, 1, 0, 0)},
		{"58 23 31 12 * -0001", lastMinute}, {"0 0 31 12 * -1459", at(9999, 12, 31, 14, 59)},
	} {
		x := parse(t, c.text)
		checkNext(t, x, c.at-1, c.at)
		checkIs(t, x, c.at, true)
		for _, after := range []int{c.at, c.at + 1, c.at + 60, last - 1, last} {
			if after >= c.at {
				checkNone(t, x, after)
			}
		}
		for _, after := range beyond() {
			if after > 0 {
				checkNone(t, x, after)
			}
		}
	}
}

// P5.1: a second that is one, where the spec's own clock has no such day, and the other way round.
func TestOwnClockAtTheEnds(t *testing.T) {
	every := parse(t, "* * * * *")
	for _, ahead := range []int{-899, -898, -720, -61, -60, -59, -2, -1, 0, 1, 2, 59, 60, 61, 720, 898, 899} {
		x := every
		x.Ahead = ahead
		first, final := max(-60*ahead, 0), min(last-60*ahead, last)/60*60
		for off := -905; off <= 905; off++ {
			second := off * 60
			checkIs(t, x, second, second >= first)
			checkIs(t, x, lastMinute+second, lastMinute+second <= final)
		}
		checkNext(t, x, -1, first)
		checkNext(t, x, first-1, first)
		checkNext(t, x, first, first+60)
		checkNext(t, x, final-1, final)
		checkNone(t, x, final)
		checkBetween(t, x, 0, first+60, 9, first, first+60)
		checkBetween(t, x, final-60, last, 9, final-60, final)
	}
}

// P5.1: the first and the last day of a clock that is ahead or behind, minute by minute.
func TestOwnClockMinuteByMinute(t *testing.T) {
	for _, text := range []string{"*/7 * * * *", "0 */5 1,31 * *", "59 23 * 1,12 *", "30 12 * * 4,5", "1-58/3 0,23 31 12 *"} {
		x := parse(t, text)
		for _, ahead := range []int{-899, -61, -1, 0, 1, 61, 899} {
			x.Ahead = ahead
			checkSpan(t, x, 0, 2*day)
			checkSpan(t, x, last-2*day, last)
		}
	}
}

// P5.1: what a clock that is ahead or behind says beside the ends of a day, a month and a year.
func TestOwnClockBesideEnds(t *testing.T) {
	for _, c := range []struct {
		text        string
		after, want int
	}{
		{"0 0 1 1 * +0100", at(2023, 6, 1, 0, 0), at(2023, 12, 31, 23, 0)},
		{"0 0 1 1 * -0100", at(2023, 6, 1, 0, 0), at(2024, 1, 1, 1, 0)},
		{"59 23 29 2 * -0001", at(2023, 6, 1, 0, 0), at(2024, 3, 1, 0, 0)},
		{"0 0 1 3 * +0001", at(2024, 1, 1, 0, 0), at(2024, 2, 29, 23, 59)},
		{"0 0 * * 0 +1459", at(2024, 9, 1, 0, 0), at(2024, 9, 7, 9, 1)},
		{"0 0 * * 0 -1459", at(2024, 9, 1, 0, 0), at(2024, 9, 1, 14, 59)},
		{"0 2 1 1 * -0500", at(2023, 12, 31, 0, 0), at(2024, 1, 1, 7, 0)},
	} {
		checkNext(t, parse(t, c.text), c.after, c.want)
		checkNext(t, parse(t, c.text), c.want-1, c.want)
	}
}

// P5.1: the 29th of February, also around a year that a hundred divides.
func TestLeapDays(t *testing.T) {
	x := parse(t, "0 0 29 2 *")
	for _, c := range [][2]int{{1970, 1972}, {1972, 1976}, {1996, 2000}, {2000, 2004}, {2096, 2104}, {2196, 2204}, {2296, 2304}, {2396, 2400}, {2400, 2404}, {9896, 9904}, {9992, 9996}} {
		leap := at(c[1], 2, 29, 0, 0)
		checkNext(t, x, at(c[0], 3, 1, 0, 0), leap)
		checkNext(t, x, leap-60, leap)
	}
	checkNone(t, x, at(9996, 2, 29, 0, 0))
	for _, year := range []int{1970, 1999, 2001, 2100, 2200, 2300, 9900, 9999} {
		checkBetween(t, x, at(year, 2, 1, 0, 0), at(year, 3, 31, 0, 0), 9)
		checkIs(t, x, at(year, 3, 1, 0, 0), false)
		checkIs(t, x, at(year, 2, 28, 0, 0), false)
	}
}

// P5.1: the 29th of February on one day of the week alone: the greatest way there is between two times of a spec.
func TestLeapDaysOfOneWeekday(t *testing.T) {
	for weekday := range 7 {
		x := parse(t, "0 0 29 2 *")
		x.Dow, x.AnyDow = 1<<weekday, true
		var want []int
		for year := 1972; year <= 9999; year++ {
			leap := time.Date(year, 2, 29, 0, 0, 0, 0, time.UTC)
			if leap.Day() == 29 && int(leap.Weekday()) == weekday {
				want = append(want, int(leap.Unix()))
			}
		}
		checkBetween(t, x, 0, last, math.MaxInt, want...)
		for i := 1; i < len(want); i++ {
			checkNext(t, x, want[i-1], want[i])
			checkNext(t, x, want[i]-1, want[i])
		}
		checkNone(t, x, want[len(want)-1])
	}
	// Sundays alone: between these two lies a year that a hundred divides.
	checkNext(t, parse(t, "0 0 29 2 */7"), at(2088, 2, 29, 0, 0), at(2128, 2, 29, 0, 0))
}

// P5.1: days that are any, one of them, both and none.
func TestDaysThatAreAny(t *testing.T) {
	base := api.Spec{Min: 1, Hour: 1, Dom: 1<<13 | 1<<20, Mon: 1<<9 | 1<<12, Dow: 1 << 5}
	from, to := at(2024, 8, 20, 0, 0), at(2024, 12, 31, 0, 0)
	both := []int{at(2024, 9, 13, 0, 0), at(2024, 9, 20, 0, 0), at(2024, 12, 13, 0, 0), at(2024, 12, 20, 0, 0)}
	either := []int{at(2024, 9, 6, 0, 0), at(2024, 9, 13, 0, 0), at(2024, 9, 20, 0, 0), at(2024, 9, 27, 0, 0), at(2024, 12, 6, 0, 0), at(2024, 12, 13, 0, 0), at(2024, 12, 20, 0, 0), at(2024, 12, 27, 0, 0)}
	for _, c := range []struct {
		anyDom, anyDow bool
		want           []int
	}{{true, true, both}, {true, false, both}, {false, true, both}, {false, false, either}} {
		x := base
		x.AnyDom, x.AnyDow = c.anyDom, c.anyDow
		checkBetween(t, x, from, to, 99, c.want...)
		checkSpan(t, x, from, at(2024, 9, 30, 0, 0))
	}
	checkNext(t, parse(t, "0 0 1 * 1"), at(2024, 9, 3, 0, 0), at(2024, 9, 9, 0, 0))
	checkNext(t, parse(t, "0 0 1 * *"), at(2024, 9, 3, 0, 0), at(2024, 10, 1, 0, 0))
	checkNext(t, parse(t, "0 0 * * 1"), at(2024, 9, 3, 0, 0), at(2024, 9, 9, 0, 0))
	checkNext(t, parse(t, "0 0 */30 * 1"), at(2024, 9, 3, 0, 0), at(2025, 3, 31, 0, 0))
}

// P5.1: the last minute of a day, of a month and of a year.
func TestLastMinutes(t *testing.T) {
	for _, c := range []struct {
		text        string
		after, want int
	}{
		{"59 23 * * *", at(2024, 2, 28, 23, 58), at(2024, 2, 28, 23, 59)},
		{"59 23 * * *", at(2024, 2, 28, 23, 59), at(2024, 2, 29, 23, 59)},
		{"59 23 * * *", at(2024, 2, 29, 23, 59), at(2024, 3, 1, 23, 59)},
		{"* * * * *", at(2024, 2, 28, 23, 59), at(2024, 2, 29, 0, 0)},
		{"* * * * *", at(2023, 2, 28, 23, 59), at(2023, 3, 1, 0, 0)},
		{"* * * * *", at(2023, 12, 31, 23, 59), at(2024, 1, 1, 0, 0)},
		{"0 * * * *", at(2023, 12, 31, 23, 0), at(2024, 1, 1, 0, 0)},
		{"59 * * * *", at(2024, 4, 30, 22, 59), at(2024, 4, 30, 23, 59)},
		{"59 23 30 4 *", at(2024, 4, 30, 23, 58), at(2024, 4, 30, 23, 59)},
		{"59 23 31 * *", at(2024, 3, 31, 23, 59), at(2024, 5, 31, 23, 59)},
		{"59 23 31 * *", at(2024, 12, 31, 23, 59), at(2025, 1, 31, 23, 59)},
		{"59 23 31 12 *", at(2099, 12, 31, 23, 58), at(2099, 12, 31, 23, 59)},
		{"59 23 31 12 *", at(2099, 12, 31, 23, 59), at(2100, 12, 31, 23, 59)},
		{"0 0 1 1 *", at(2099, 12, 31, 23, 59), at(2100, 1, 1, 0, 0)},
		{"59 23 28 2 *", at(2100, 2, 28, 23, 58), at(2100, 2, 28, 23, 59)},
		{"30 5 * * *", at(2024, 5, 5, 5, 30), at(2024, 5, 6, 5, 30)},
		{"30 5,7 * * *", at(2024, 5, 5, 5, 45), at(2024, 5, 5, 7, 30)},
		{"15,45 5 * * *", at(2024, 5, 5, 5, 15), at(2024, 5, 5, 5, 45)},
		{"15,45 5 * * *", at(2024, 5, 5, 4, 50), at(2024, 5, 5, 5, 15)},
	} {
		checkNext(t, parse(t, c.text), c.after, c.want)
	}
}

// P5.1, P5.2: specs that are right, but on no day.
func TestNoDay(t *testing.T) {
	for _, text := range []string{"0 0 30 2 *", "* * 30,31 2 *", "* * 31 2,4,6,9,11 *", "0 0 31 nov * +0100", "0 0 30 feb */7 -1459"} {
		x := parse(t, text)
		for _, after := range append(beyond(), 0, 60, at(2024, 2, 1, 0, 0), at(2024, 2, 29, 23, 59), at(9999, 2, 1, 0, 0), last-1, last) {
			checkNone(t, x, after)
		}
		checkBetween(t, x, 0, last, 9)
		checkBetween(t, x, math.MinInt, math.MaxInt, math.MaxInt)
		for second := at(2024, 2, 1, 0, 0); second < at(2024, 3, 2, 0, 0); second += 3600 {
			checkIs(t, x, second, false)
		}
	}
	// Where either of the days is enough, the one of the week is.
	checkNext(t, parse(t, "0 0 30 2 1"), at(2024, 1, 1, 0, 0), at(2024, 2, 5, 0, 0))
}

// P5.1, P5.2: a spec that isn't right is at no second.
func TestWrongSpecs(t *testing.T) {
	for _, x := range wrongSpecs(t) {
		if cron.Right(x) {
			t.Fatalf("%+v is right", x)
		}
		for _, second := range append(beyond(), 0, 60, at(2023, 1, 1, 0, 0), lastMinute, last) {
			checkIs(t, x, second, false)
			checkNone(t, x, second)
			checkBetween(t, x, second, math.MaxInt, math.MaxInt)
		}
		checkBetween(t, x, math.MinInt, math.MaxInt, math.MaxInt)
	}
}

// P5.2: both ends are with them.
func TestBetweenEnds(t *testing.T) {
	x := parse(t, "*/30 9 * * *")
	first := at(2020, 1, 1, 9, 0)
	half, morrow := first+1800, first+day
	checkBetween(t, x, first, morrow, 9, first, half, morrow)
	checkBetween(t, x, first-1, morrow+1, 9, first, half, morrow)
	checkBetween(t, x, first+1, morrow-1, 9, half)
	checkBetween(t, x, first, first, 9, first)
	checkBetween(t, x, first, first+1, 9, first)
	checkBetween(t, x, first-1, first, 9, first)
	checkBetween(t, x, first-1, first-1, 9)
	checkBetween(t, x, first+1, first+1, 9)
	checkBetween(t, x, first+1, half-1, 9)
	checkBetween(t, x, half+1, morrow-1, 9)
}

// P5.2: from behind to, and both far beyond the calendar.
func TestBetweenOutside(t *testing.T) {
	x := parse(t, "* * * * *")
	checkBetween(t, x, 60, 59, 9)
	checkBetween(t, x, 120, 0, 9)
	checkBetween(t, x, 0, -1, 9)
	checkBetween(t, x, math.MaxInt, math.MinInt, 9)
	checkBetween(t, x, math.MaxInt, math.MinInt, math.MaxInt)
	checkBetween(t, x, -1000, 60, 9, 0, 60)
	checkBetween(t, x, -60, -1, 9)
	checkBetween(t, x, -60, 0, 9, 0)
	for _, from := range beyond() {
		if from < 0 {
			checkBetween(t, x, from, 120, 9, 0, 60, 120)
			checkBetween(t, x, from, 0, 9, 0)
			checkBetween(t, x, from, -1, 9)
			checkBetween(t, x, from, math.MinInt, 9)
			checkBetween(t, x, 0, from, 9)
		} else {
			checkBetween(t, x, lastMinute-60, from, 9, lastMinute-60, lastMinute)
			checkBetween(t, x, last, from, 9)
			checkBetween(t, x, from, math.MaxInt, 9)
			checkBetween(t, x, from, from, math.MaxInt)
		}
	}
	checkBetween(t, x, math.MinInt, math.MaxInt, 2, 0, 60)
	rare := parse(t, "0 0 1 1 5 +1459")
	rare.Dom, rare.AnyDow = 1<<1, true
	checkBetween(t, rare, math.MinInt, math.MaxInt, 1, at(1970, 12, 31, 9, 1))
}

// P5.2: how many are told.
func TestBetweenMost(t *testing.T) {
	x := parse(t, "0 0 * * *")
	all := []int{0, day, 2 * day, 3 * day}
	for _, most := range []int{0, -1, -2, math.MinInt, math.MinInt + 1} {
		checkBetween(t, x, 0, 3*day, most)
		checkBetween(t, x, math.MinInt, math.MaxInt, most)
	}
	for most := 1; most <= 4; most++ {
		checkBetween(t, x, 0, 3*day, most, all[:most]...)
		checkBetween(t, x, 0, math.MaxInt, most, all[:most]...)
	}
	for _, most := range []int{5, 100, 1 << 40, math.MaxInt - 1, math.MaxInt} {
		checkBetween(t, x, 0, 3*day, most, all...)
	}
	checkBetween(t, x, 1, 3*day, 1, day)
}

// P5.2: what is answered is new memory: to write to it changes no later answer.
func TestBetweenIsNew(t *testing.T) {
	x := parse(t, "0 0 * * *")
	one := Between(x, 0, 3*day, 9)
	for i := range one[:cap(one)] {
		one[:cap(one)][i] = -7
	}
	checkBetween(t, x, 0, 3*day, 9, 0, day, 2*day, 3*day)
}

// randomSet: some of the numbers from first to final, at least one, rarely many.
func randomSet(r *rand.Rand, first, final int) uint64 {
	var set uint64
	if r.Intn(4) == 0 {
		for n := first; n <= final; n++ {
			set |= 1 << n
		}
		return set
	}
	for range 1 + r.Intn(3) {
		set |= 1 << (first + r.Intn(final-first+1))
	}
	return set
}

func randomSpec(r *rand.Rand) api.Spec {
	x := api.Spec{Min: randomSet(r, 0, 59), Hour: randomSet(r, 0, 23), Dom: randomSet(r, 1, 31), Mon: randomSet(r, 1, 12), Dow: randomSet(r, 0, 6)}
	x.AnyDom, x.AnyDow = r.Intn(2) == 0, r.Intn(2) == 0
	if r.Intn(2) == 0 {
		x.Ahead = r.Intn(1799) - 899
	}
	return x
}

// P5.4: any specs, over some days: none of their times is left out, and none invented.
func TestSpansOfAnySpecs(t *testing.T) {
	r := rand.New(rand.NewSource(5))
	starts := []int{0, last - 4*day, at(2023, 12, 30, 0, 0), at(2024, 2, 27, 0, 0), at(2100, 2, 27, 0, 0), at(2024, 4, 29, 0, 0)}
	for range 300 {
		x := randomSpec(r)
		from := starts[r.Intn(len(starts))] + r.Intn(3600)
		checkSpan(t, x, from, min(from+3*day+r.Intn(day), last))
	}
}

// P5.4: over all of the calendar, a spec of few minutes a day is just on the days on which the library's calendar has it.
func TestAllTimesOfTheCalendar(t *testing.T) {
	for _, text := range []string{"0 0 13 * 5", "30 6 */9 3,10 */3 +0530", "0 0 29 2 1 -0800", "59 23 31 * *", "0 12 1 1 * +1459", "5 0,23 30 4,6,12 */2 -1459"} {
		x := parse(t, text)
		var want []int
		for midnight := 0; midnight <= last; midnight += day {
			if !onDay(x, time.Unix(int64(midnight), 0).UTC()) {
				continue
			}
			for minute := range 1440 {
				second := midnight + 60*minute - 60*x.Ahead
				if hasBit(x.Hour, minute/60) && hasBit(x.Min, minute%60) && second >= 0 && second <= last {
					want = append(want, second)
				}
			}
		}
		checkBetween(t, x, math.MinInt, math.MaxInt, math.MaxInt, want...)
		if len(want) < 100 {
			t.Errorf("%q: %d times", text, len(want))
		}
	}
}

// P5.4: from any second on, the next time of any spec is one, and none lies between.
func TestNextOfAnySeconds(t *testing.T) {
	r := rand.New(rand.NewSource(6))
	for range 20000 {
		x, after := randomSpec(r), r.Intn(last+1)
		got, ok := Next(x, after)
		if !ok {
			if got != 0 {
				t.Fatalf("Next(%+v, %d): %d, false", x, after, got)
			}
			checkBetween(t, x, after+1, last, 1)
			continue
		}
		if got <= after || !isAt(x, got) || !Is(x, got) {
			t.Fatalf("Next(%+v, %d): %d, at which it isn't", x, after, got)
		}
		checkNext(t, x, got-1, got)
		for range 20 {
			if between := after + 1 + r.Intn(got-after); between < got && isAt(x, between/60*60) && between/60*60 > after {
				t.Fatalf("Next(%+v, %d): %d, but %d is one", x, after, got, between/60*60)
			}
		}
	}
}
