package cron

import (
	"math"
	"math/rand"
	"strings"
	"testing"

	"tompion/api"
)

// bits: the set of those numbers.
func bits(numbers ...int) uint64 {
	var set uint64
	for _, n := range numbers {
		set |= 1 << n
	}
	return set
}

// from: the set of all numbers from one to another one.
func from(first, last int) uint64 {
	var set uint64
	for n := first; n <= last; n++ {
		set |= 1 << n
	}
	return set
}

// plain: a right spec whose text is "0 0 1 1 0".
func plain() api.Spec {
	return api.Spec{Min: 1, Hour: 1, Dom: 2, Mon: 2, Dow: 1}
}

// setOf: the place of a field's set in a spec, by the field's number.
func setOf(x *api.Spec, field int) *uint64 {
	return []*uint64{&x.Min, &x.Hour, &x.Dom, &x.Mon, &x.Dow}[field]
}

// bounds: the numbers that a right set may have, as the document's table has them.
var bounds = [5][2]int{{0, 59}, {0, 23}, {1, 31}, {1, 12}, {0, 6}}

// outside: numbers that no set of 64 bits has.
var outside = []int{-1, -2, -63, -64, -65, 64, 65, 127, 128, 256, 1 << 31, 1 << 32, 1<<32 + 1, -1 << 32, math.MaxInt, math.MaxInt - 1, math.MinInt, math.MinInt + 1}

func checkRight(t *testing.T, x api.Spec, want bool) {
	t.Helper()
	if got := Right(x); got != want {
		t.Errorf("Right(%+v): %v, want %v", x, got, want)
	}
	if !want && Text(x) != "" {
		t.Errorf("Text(%+v): %q, want none: it isn't right", x, Text(x))
	}
}

// P4.1: each bit of each set alone is right just where the field has the number.
func TestRightBitByBit(t *testing.T) {
	for field, b := range bounds {
		for n := range 64 {
			x := plain()
			*setOf(&x, field) = 1 << n
			checkRight(t, x, b[0] <= n && n <= b[1])
		}
	}
}

// P4.1: a set is no better for the right numbers beside a wrong one.
func TestRightBitBesideOthers(t *testing.T) {
	for field, b := range bounds {
		all := from(b[0], b[1])
		for n := range 64 {
			x := plain()
			*setOf(&x, field) = all | 1<<n
			checkRight(t, x, b[0] <= n && n <= b[1])
		}
		x := plain()
		*setOf(&x, field) = math.MaxUint64
		checkRight(t, x, false)
	}
}

// P4.1: sets with no bit, and with all of them.
func TestRightEmptyAndFull(t *testing.T) {
	checkRight(t, api.Spec{}, false)
	checkRight(t, api.Spec{AnyDom: true, AnyDow: true}, false)
	full := api.Spec{Min: from(0, 59), Hour: from(0, 23), Dom: from(1, 31), Mon: from(1, 12), Dow: from(0, 6)}
	checkRight(t, full, true)
	for field := range bounds {
		for _, x := range []api.Spec{plain(), full} {
			*setOf(&x, field) = 0
			checkRight(t, x, false)
			x.AnyDom, x.AnyDow = true, true
			checkRight(t, x, false)
		}
	}
}

// P4.1: days that are any need not be all, nor those of a step, but they are days.
func TestRightAny(t *testing.T) {
	for _, dom := range []uint64{bits(1), bits(31), bits(2, 3), bits(1, 2, 4), from(1, 31)} {
		for _, dow := range []uint64{bits(0), bits(6), bits(1, 2), bits(0, 1, 3), from(0, 6)} {
			for _, flags := range anyFlags {
				x := plain()
				x.Dom, x.Dow, x.AnyDom, x.AnyDow = dom, dow, flags[0], flags[1]
				checkRight(t, x, true)
				x.Dom |= 1
				checkRight(t, x, false)
				x.Dom = dom
				x.Dow |= 1 << 7
				checkRight(t, x, false)
			}
		}
	}
}

// P4.1: how far the clock may be ahead.
func TestRightAhead(t *testing.T) {
	for ahead := -1000; ahead <= 1000; ahead++ {
		x := plain()
		x.Ahead = ahead
		checkRight(t, x, -899 <= ahead && ahead <= 899)
	}
	for _, ahead := range []int{1 << 31, 1 << 32, 1<<32 + 1, -1 << 32, math.MaxInt, math.MinInt, math.MinInt + 1} {
		x := plain()
		x.Ahead = ahead
		checkRight(t, x, false)
	}
}

// anyFlags: whether the days of the month, and those of the week, are any.
var anyFlags = [][2]bool{{false, false}, {true, false}, {false, true}, {true, true}}

// P4.3: which days there are, by whether the bits are there: with days that are any both count, else either.
func TestDayTable(t *testing.T) {
	for _, c := range []struct {
		anyDom, anyDow         bool
		none, dom, dow, domDow bool
	}{
		{false, false, false, true, true, true},
		{true, false, false, false, false, true},
		{false, true, false, false, false, true},
		{true, true, false, false, false, true},
	} {
		x := api.Spec{Mon: bits(4), Dom: bits(13), Dow: bits(5), AnyDom: c.anyDom, AnyDow: c.anyDow}
		for _, d := range []struct {
			day, weekday int
			want         bool
		}{{12, 4, c.none}, {13, 4, c.dom}, {12, 5, c.dow}, {13, 5, c.domDow}} {
			if got := Day(x, 4, d.day, d.weekday); got != d.want {
				t.Errorf("Day(%+v, 4, %d, %d): %v, want %v", x, d.day, d.weekday, got, d.want)
			}
			if Day(x, 3, d.day, d.weekday) || Day(x, 5, d.day, d.weekday) {
				t.Errorf("Day(%+v): on a day %d, %d of a month that it doesn't say", x, d.day, d.weekday)
			}
		}
	}
}

// P4.3: what a text says of days: a star with all of them leaves the other field to say which; a star with a step narrows it.
func TestDayOfTexts(t *testing.T) {
	for text, want := range map[string]func(month, day, weekday int) bool{
		"0 0 13 * 5":       func(_, d, w int) bool { return d == 13 || w == 5 },
		"0 0 * * 5":        func(_, d, w int) bool { return w == 5 },
		"0 0 13 * *":       func(_, d, w int) bool { return d == 13 },
		"0 0 * * *":        func(_, d, w int) bool { return true },
		"0 0 */2 * 5":      func(_, d, w int) bool { return d%2 == 1 && w == 5 },
		"0 0 13 * */3":     func(_, d, w int) bool { return d == 13 && w%3 == 0 },
		"0 0 */10 * */2":   func(_, d, w int) bool { return d%10 == 1 && w%2 == 0 },
		"0 0 1-31 * 5":     func(_, d, w int) bool { return true },
		"0 0 13,* * 5":     func(_, d, w int) bool { return true },
		"0 0 *,13 * 5":     func(_, d, w int) bool { return w == 5 },
		"0 0 1 feb,4 7":    func(m, d, w int) bool { return (m == 2 || m == 4) && (d == 1 || w == 0) },
		"0 0 * nov-dec *":  func(m, d, w int) bool { return m >= 11 },
		"0 0 29-31 3 sat":  func(m, d, w int) bool { return m == 3 && (d >= 29 || w == 6) },
		"0 0 */99 */5 0-7": func(m, d, w int) bool { return (m == 1 || m == 6 || m == 11) && d == 1 },
	} {
		x := mustParse(t, text)
		for month := 1; month <= 12; month++ {
			for day := 1; day <= 31; day++ {
				for weekday := range 7 {
					if got := Day(x, month, day, weekday); got != want(month, day, weekday) {
						t.Errorf("%s: Day(%d, %d, %d): %v", text, month, day, weekday, got)
					}
				}
			}
		}
	}
}

// P4.3: a number that isn't 0 to 63 has no bit, whatever the sets have; and Day asks nothing but its own three sets.
func TestDayNumbers(t *testing.T) {
	const all = math.MaxUint64
	for _, flags := range anyFlags {
		x := api.Spec{Dom: all, Mon: all, Dow: all, AnyDom: flags[0], AnyDow: flags[1]}
		both := flags[0] || flags[1]
		for _, n := range []int{0, 1, 6, 7, 31, 32, 33, 62, 63} {
			if !Day(x, n, n, n) {
				t.Errorf("Day(%+v, %d, %d, %d): not there", x, n, n, n)
			}
		}
		for _, n := range outside {
			if Day(x, n, 1, 1) || Day(x, n, n, n) || Day(x, 1, n, n) {
				t.Errorf("Day(%+v): %d is there", x, n)
			}
			if Day(x, 1, n, 1) == both || Day(x, 1, 1, n) == both {
				t.Errorf("Day(%+v): %d beside one that is there", x, n)
			}
		}
	}
}

// P4.3: bit for bit, at each number.
func TestDayEachBit(t *testing.T) {
	for n := range 64 {
		for m := range 64 {
			same := n == m
			one := api.Spec{Mon: 1 << n, Dom: 1 << n, Dow: 1 << n}
			if Day(one, m, n, n) != same || Day(one, n, m, m) != same || !Day(one, n, m, n) || !Day(one, n, n, m) {
				t.Fatalf("bit %d, number %d", n, m)
			}
			one.AnyDom = true
			if Day(one, n, m, n) != same || Day(one, n, n, m) != same {
				t.Fatalf("bit %d, number %d, any", n, m)
			}
		}
	}
}

// P4.3: both bits of a time of the day.
func TestMinute(t *testing.T) {
	x := mustParse(t, "*/15 0-6/2 * * *")
	for hour := range 64 {
		for minute := range 64 {
			want := hour <= 6 && hour%2 == 0 && minute < 60 && minute%15 == 0
			if Minute(x, hour, minute) != want {
				t.Errorf("Minute(%d, %d): %v, want %v", hour, minute, !want, want)
			}
		}
	}
	full := api.Spec{Min: math.MaxUint64, Hour: math.MaxUint64}
	for _, n := range []int{0, 1, 23, 24, 59, 60, 62, 63} {
		if !Minute(full, n, n) || !Minute(full, 0, n) || !Minute(full, n, 0) {
			t.Errorf("Minute: %d isn't there", n)
		}
		if Minute(api.Spec{Min: math.MaxUint64}, n, n) || Minute(api.Spec{Hour: math.MaxUint64}, n, n) {
			t.Errorf("Minute: %d is there, with one bit alone", n)
		}
	}
	for _, n := range outside {
		if Minute(full, n, 0) || Minute(full, 0, n) || Minute(full, n, n) {
			t.Errorf("Minute: %d is there", n)
		}
	}
}

// P4.4: what is parsed is right, and its text, if it has one, says the same.
func TestParsedIsRight(t *testing.T) {
	random := rand.New(rand.NewSource(4))
	parsed, told, long, none := 0, 0, 0, 0
	for range 20000 {
		s := randomText(random)
		x, e := Parse(s)
		if e != api.OK {
			continue
		}
		parsed++
		if !Right(x) {
			t.Fatalf("%q: %+v isn't right", s, x)
		}
		text := Text(x)
		switch again, e := Parse(text); {
		case text == "":
			none++
			if hasText(x) {
				t.Fatalf("%q: %+v has no text", s, x)
			}
		case len(text) > api.MaxText:
			long++
			if e != api.ErrBadCron {
				t.Fatalf("%q: a text of %d bytes is parsed", text, len(text))
			}
			checkSays(t, text, x)
		default:
			told++
			if e != api.OK || again != x || Text(again) != text {
				t.Fatalf("%q: %q says %+v, %d, want %+v", s, text, again, e, x)
			}
			checkSays(t, text, x)
		}
	}
	if parsed < 5000 || told < 2000 || long < 50 || none < 50 {
		t.Fatalf("too few texts: %d parsed, %d told, %d long, %d none", parsed, told, long, none)
	}
}

// P4.2, P4.4: every right spec that has a text of at most 256 bytes is what Parse makes of it.
func TestSpecsAgain(t *testing.T) {
	random := rand.New(rand.NewSource(44))
	told, none := 0, 0
	for range 10000 {
		x := randomSpec(random)
		checkRight(t, x, true)
		text := Text(x)
		if (text != "") != hasText(x) {
			t.Fatalf("%+v: %q", x, text)
		}
		if text == "" {
			none++
			continue
		}
		checkSays(t, text, x)
		if len(text) > api.MaxText {
			continue
		}
		told++
		if again, e := Parse(text); e != api.OK || again != x {
			t.Fatalf("%q says %+v, %d, want %+v", text, again, e, x)
		}
	}
	if told < 2000 || none < 1000 {
		t.Fatalf("too few specs: %d told, %d none", told, none)
	}
}

// checkSays: that a text of any length says that spec, as the other reader of the tests has it.
func checkSays(t *testing.T, text string, x api.Spec) {
	t.Helper()
	if read, ok := readText(text); !ok || read != x {
		t.Fatalf("%q is read as %+v, %v, want %+v", text, read, ok, x)
	}
}

// hasText: whether a spec's days that are any are those of a step.
func hasText(x api.Spec) bool {
	return (!x.AnyDom || isStepped(x.Dom, 1, 31)) && (!x.AnyDow || isStepped(x.Dow, 0, 6))
}

func isStepped(set uint64, first, last int) bool {
	for step := 1; step <= 99; step++ {
		var want uint64
		for n := range 64 {
			if first <= n && n <= last && (n-first)%step == 0 {
				want |= 1 << n
			}
		}
		if set == want {
			return true
		}
	}
	return false
}

func randomSpec(random *rand.Rand) api.Spec {
	x := api.Spec{AnyDom: random.Intn(3) == 0, AnyDow: random.Intn(3) == 0}
	for field, b := range bounds {
		set := setOf(&x, field)
		switch random.Intn(4) {
		case 0:
			for range 1 + random.Intn(5) {
				*set |= 1 << (b[0] + random.Intn(b[1]-b[0]+1))
			}
		case 1:
			*set = from(b[0], b[1])
		default:
			step := 1 + random.Intn(40)
			for n := b[0]; n <= b[1]; n += step {
				*set |= 1 << n
			}
		}
	}
	if random.Intn(2) == 0 {
		x.Ahead = random.Intn(2*899+1) - 899
	}
	return x
}

// P4.1 to P4.4: any bytes are an answer or an error, and never anything between.
func FuzzParse(f *testing.F) {
	for _, s := range []string{"", "* * * * *", "*/15 0-6/2 1,15 jan-mar mon", "0 0 13 * 5", "0 0 * * 7 -1459", "60 * * * *", "\x00\xff", strings.Repeat(" ", 257)} {
		f.Add(s)
	}
	f.Fuzz(func(t *testing.T, s string) {
		checkAsRead(t, s)
	})
}
