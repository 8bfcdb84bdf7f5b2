package civil

import (
	"math"
	"testing"
	"time"

	"tompion/api"
)

// lastDay: the last of December of 9999, as the library's own calendar has it too (TestLibraryAgrees).
const lastDay = 2932896

// long: how many days a month has, as the document writes it down.
func long(year, month int) int {
	days := []int{31, 28, 31, 30, 31, 30, 31, 31, 30, 31, 30, 31}[month-1]
	if month == 2 && (year%400 == 0 || year%100 != 0 && year%4 == 0) {
		days++
	}
	return days
}

// known: days whose numbers are known from elsewhere: the document's examples, the ends of the calendar, and the turn of February.
var known = []struct{ year, month, day, days, weekday int }{
	{1970, 1, 1, 0, 4},
	{1970, 1, 2, 1, 5},
	{1970, 1, 3, 2, 6},
	{1970, 1, 4, 3, 0},
	{1970, 1, 31, 30, 6},
	{1970, 2, 1, 31, 0},
	{1970, 2, 28, 58, 6},
	{1970, 3, 1, 59, 0},
	{1970, 12, 31, 364, 4},
	{1971, 1, 1, 365, 5},
	{1972, 2, 28, 788, 1},
	{1972, 2, 29, 789, 2},
	{1972, 3, 1, 790, 3},
	{1972, 12, 31, 1095, 0},
	{1973, 1, 1, 1096, 1},
	{1999, 12, 31, 10956, 5},
	{2000, 1, 1, 10957, 6},
	{2000, 2, 28, 11015, 1},
	{2000, 2, 29, 11016, 2},
	{2000, 3, 1, 11017, 3},
	{2024, 1, 1, 19723, 1},
	{2026, 11, 18, 20775, 3},
	{2100, 2, 28, 47540, 0},
	{2100, 3, 1, 47541, 1},
	{9999, 12, 30, lastDay - 1, 4},
	{9999, 12, 31, lastDay, 5},
}

// wrongDays: numbers of no day, near both ends of the calendar and far from them.
func wrongDays() []int {
	all := []int{-1, -2, -365, -719162, -lastDay, lastDay + 1, lastDay + 2, lastDay + 366, 1 << 31, 1 << 32, 1 << 40, -1 << 31, -1 << 32}
	for near := range 10 {
		all = append(all, math.MaxInt-near, math.MinInt+near)
	}
	return all
}

func wrongYears() []int {
	return []int{1969, 1968, 1600, 400, 1, 0, -1, -4, -1970, 10000, 10001, 10004, 1<<32 + 2000, math.MaxInt, math.MaxInt - 1, math.MinInt, math.MinInt + 1}
}

func wrongMonths() []int {
	return []int{0, -1, -12, 13, 14, 24, 1<<32 + 1, math.MaxInt, math.MaxInt - 1, math.MinInt, math.MinInt + 1}
}

func checkDays(t *testing.T, year, month, day, want int) {
	t.Helper()
	if n, e := Days(year, month, day); n != want || e != api.OK {
		t.Fatalf("Days(%d, %d, %d): %d, %d, want %d, OK", year, month, day, n, e, want)
	}
}

func checkDate(t *testing.T, days, year, month, day int) {
	t.Helper()
	if y, m, d, e := Date(days); y != year || m != month || d != day || e != api.OK {
		t.Fatalf("Date(%d): %d, %d, %d, %d, want %d, %d, %d, OK", days, y, m, d, e, year, month, day)
	}
}

func checkWeekday(t *testing.T, days, want int) {
	t.Helper()
	if w, e := Weekday(days); w != want || e != api.OK {
		t.Fatalf("Weekday(%d): %d, %d, want %d, OK", days, w, e, want)
	}
}

func checkNoDate(t *testing.T, year, month, day int) {
	t.Helper()
	if n, e := Days(year, month, day); n != 0 || e != api.ErrRange {
		t.Errorf("Days(%d, %d, %d): %d, %d, want 0, ErrRange", year, month, day, n, e)
	}
}

func TestDaysOfKnownDates(t *testing.T) { // P3.1
	for _, c := range known {
		checkDays(t, c.year, c.month, c.day, c.days)
	}
}

func TestDateOfKnownDays(t *testing.T) { // P3.1
	for _, c := range known {
		checkDate(t, c.days, c.year, c.month, c.day)
	}
}

func TestWeekdayOfKnownDays(t *testing.T) { // P3.2
	for _, c := range known {
		checkWeekday(t, c.days, c.weekday)
	}
}

// Every day of the calendar, walked one by one: the first and the last one of each month, and each 28th and 29th of February, are among them.
func TestEveryDay(t *testing.T) { // P3.1, P3.2, P3.3
	days, weekday := 0, 4
	for year := 1970; year <= 9999; year++ {
		for month := 1; month <= 12; month++ {
			for day := 1; day <= long(year, month); day++ {
				checkDays(t, year, month, day, days)
				checkDate(t, days, year, month, day)
				checkWeekday(t, days, weekday)
				days++
				weekday = (weekday + 1) % 7
			}
		}
	}
	if days != lastDay+1 {
		t.Fatalf("the calendar has %d days, want %d", days, lastDay+1)
	}
}

// The library's calendar is told by others: it catches what the walk and the program might both have wrong.
func TestLibraryAgrees(t *testing.T) { // P3.1, P3.2
	for days := 0; days <= lastDay; days += 13 {
		at := time.Unix(int64(days)*86400, 0).UTC()
		checkDate(t, days, at.Year(), int(at.Month()), at.Day())
		checkDays(t, at.Year(), int(at.Month()), at.Day(), days)
		checkWeekday(t, days, int(at.Weekday()))
	}
	at := time.Date(9999, 12, 31, 23, 59, 59, 0, time.UTC)
	if at.Unix()/86400 != lastDay || Last() != int(at.Unix()) {
		t.Fatalf("Last: %d, want %d", Last(), at.Unix())
	}
}

func TestDaysRefusesYears(t *testing.T) { // P3.1
	for _, year := range wrongYears() {
		checkNoDate(t, year, 1, 1)
		checkNoDate(t, year, 2, 29)
		checkNoDate(t, year, 12, 31)
	}
	checkNoDate(t, 1969, 12, 31)
	checkNoDate(t, 10000, 1, 1)
}

func TestDaysRefusesMonths(t *testing.T) { // P3.1
	for _, month := range wrongMonths() {
		for _, year := range []int{1970, 2000, 2001, 9999} {
			checkNoDate(t, year, month, 0)
			checkNoDate(t, year, month, 1)
			checkNoDate(t, year, month, 31)
		}
	}
}

func TestDaysRefusesDays(t *testing.T) { // P3.1
	for _, year := range []int{1970, 1972, 2000, 2001, 2100, 2400, 9999} {
		for month := 1; month <= 12; month++ {
			last := long(year, month)
			for _, day := range []int{0, -1, -31, last + 1, last + 2, 32, 366, 1<<32 + 1, math.MaxInt, math.MaxInt - 1, math.MinInt, math.MinInt + 1} {
				checkNoDate(t, year, month, day)
			}
		}
	}
}

func TestFebruaryEnds(t *testing.T) { // P3.1, P3.2
	for _, c := range []struct{ year, last int }{
		{1970, 28}, {1971, 28}, {1972, 29}, {1973, 28}, {1976, 29}, {2000, 29}, {2001, 28}, {2004, 29},
		{2100, 28}, {2200, 28}, {2300, 28}, {2400, 29}, {2404, 29}, {9600, 29}, {9900, 28}, {9996, 29}, {9999, 28},
	} {
		if n := Long(c.year, 2); n != c.last {
			t.Errorf("Long(%d, 2): %d, want %d", c.year, n, c.last)
		}
		checkNoDate(t, c.year, 2, c.last+1)
		n, e := Days(c.year, 2, c.last)
		if e != api.OK {
			t.Errorf("Days(%d, 2, %d): %d", c.year, c.last, e)
		}
		checkDate(t, n, c.year, 2, c.last)
		checkDate(t, n+1, c.year, 3, 1)
	}
}

func TestAllThreeWrong(t *testing.T) { // P3.1
	for _, n := range []int{math.MaxInt, math.MinInt, -1, 0} {
		checkNoDate(t, n, n, n)
	}
}

func TestDateRefuses(t *testing.T) { // P3.1
	for _, days := range wrongDays() {
		if y, m, d, e := Date(days); y != 0 || m != 0 || d != 0 || e != api.ErrRange {
			t.Errorf("Date(%d): %d, %d, %d, %d, want 0, 0, 0, ErrRange", days, y, m, d, e)
		}
	}
}

func TestWeekdayRefuses(t *testing.T) { // P3.2
	for _, days := range wrongDays() {
		if w, e := Weekday(days); w != 0 || e != api.ErrRange {
			t.Errorf("Weekday(%d): %d, %d, want 0, ErrRange", days, w, e)
		}
	}
}

func TestLongOfEveryMonth(t *testing.T) { // P3.2
	for year := 1970; year <= 9999; year++ {
		for month := 1; month <= 12; month++ {
			if n := Long(year, month); n != long(year, month) {
				t.Fatalf("Long(%d, %d): %d, want %d", year, month, n, long(year, month))
			}
		}
	}
}

func TestLongOfNoMonth(t *testing.T) { // P3.2
	for _, year := range wrongYears() {
		for month := -1; month <= 14; month++ {
			if n := Long(year, month); n != 0 {
				t.Errorf("Long(%d, %d): %d, want 0", year, month, n)
			}
		}
	}
	for _, month := range wrongMonths() {
		for _, year := range append(wrongYears(), 1970, 1972, 2000, 2100, 9999) {
			if n := Long(year, month); n != 0 {
				t.Errorf("Long(%d, %d): %d, want 0", year, month, n)
			}
		}
	}
}

func TestLast(t *testing.T) { // P3.2
	if n := Last(); n != 253402300799 {
		t.Fatalf("Last(): %d", n)
	}
	checkDate(t, Last()/86400, 9999, 12, 31)
	if _, _, _, e := Date((Last() + 1) / 86400); e != api.ErrRange {
		t.Fatalf("the second behind the last one has a date: %d", e)
	}
}

// Told by the calls alone, without a calendar of the test's own.
func TestDaysAndDatesTurnRound(t *testing.T) { // P3.3
	for days := 0; days <= lastDay; days++ {
		year, month, day, e := Date(days)
		if e != api.OK {
			t.Fatalf("Date(%d): %d", days, e)
		}
		checkDays(t, year, month, day, days)
	}
}

func TestNextDayIsOneMore(t *testing.T) { // P3.3
	for year := 1970; year <= 9999; year++ {
		for month := 1; month <= 12; month++ {
			last, e := Days(year, month, Long(year, month))
			if e != api.OK {
				t.Fatalf("Days(%d, %d, %d): %d", year, month, Long(year, month), e)
			}
			first, _ := Days(year, month, 1)
			if last-first+1 != Long(year, month) {
				t.Fatalf("%d-%d goes from %d to %d", year, month, first, last)
			}
			switch {
			case month < 12:
				checkDays(t, year, month+1, 1, last+1)
			case year < 9999:
				checkDays(t, year+1, 1, 1, last+1)
			}
		}
	}
}
