package state

import (
	"math"
	"slices"
	"testing"

	"tompion/api"
)

// checkFires: Fires tells it, and Apply does it.
func checkFires(t *testing.T, s *State, o api.Op) {
	t.Helper()
	was := look(s)
	if !s.Fires(o) {
		t.Fatalf("Fires(%+v): false", o)
	}
	checkView(t, s, was)
	checkApply(t, s, o, done(o.Gen, o.Occ))
	if now := look(s); !slices.Equal(now.clients, was.clients) || !slices.Equal(now.last, was.last) {
		t.Fatalf("a fire is remembered: %+v, it was %+v", now, was)
	}
}

func checkFiresNot(t *testing.T, s *State, o api.Op) {
	t.Helper()
	if s.Fires(o) {
		t.Fatalf("Fires(%+v): true", o)
	}
	checkNothing(t, s, o, no(api.ErrNotFound))
}

// P8.2, P8.3: a fire with another Id, Gen, Occ, or a Stamp that is too early, does nothing; with Stamp Occ or more it is done, once.
func TestFireOnce(t *testing.T) {
	for _, due := range []int{1, 2, 100, lastMinute, 1<<40 - 1, 1 << 40} {
		for _, stamp := range []int{due, due + 1, due + day, 1 << 50, math.MaxInt} {
			s := New(2)
			checkApply(t, s, set(1, 1, 7, due), done(1, due))
			checkApply(t, s, set(1, 2, 8, due), done(2, due))
			for _, o := range []api.Op{
				fire(7, 2, due, stamp), fire(7, 0, due, stamp), fire(7, -1, due, stamp), fire(7, math.MaxInt, due, stamp),
				fire(7, 1, due-1, stamp), fire(7, 1, due+1, math.MaxInt), fire(7, 1, 0, stamp), fire(7, 1, -due, stamp), fire(7, 1, math.MinInt, stamp), fire(7, 1, math.MaxInt, math.MaxInt),
				fire(7, 1, due, due-1), fire(7, 1, due, 0), fire(7, 1, due, -1), fire(7, 1, due, math.MinInt),
				fire(8, 1, due, stamp), fire(9, 1, due, stamp), fire(-1, 1, due, stamp), fire(0, 1, due, stamp), fire(1001, 1, due, stamp), fire(math.MaxInt, 1, due, stamp),
			} {
				checkFiresNot(t, s, o)
			}
			checkFires(t, s, fire(7, 1, due, stamp))
			checkTimers(t, s, api.Timer{Id: 8, Client: 1, Gen: 2, Due: due})
			checkFiresNot(t, s, fire(7, 1, due, stamp))
			checkFiresNot(t, s, fire(7, 1, due, math.MaxInt))
			checkFires(t, s, fire(8, 2, due, stamp))
			checkTimers(t, s)
		}
	}
}

// P8.2, P8.3: a timer that is Due at 0 never fires: one without a text, one that never comes again, and one that comes at the very first second.
func TestDueAtZeroNeverFires(t *testing.T) {
	for _, o := range []api.Op{set(1, 1, 7, 0), setCron(1, 1, 7, never, 0), setCron(1, 1, 7, minutely, lastMinute), setCron(1, 1, 7, minutely, -1)} {
		s := New(1)
		checkApply(t, s, o, done(1, 0))
		for _, stamp := range []int{0, 1, 60, math.MaxInt, -1} {
			for _, occ := range []int{0, -1, 60, lastMinute, math.MinInt} {
				checkFiresNot(t, s, fire(7, 1, occ, stamp))
			}
		}
		checkApply(t, s, cancel(1, 2, 7), done(1, 0))
	}
}

// P8.2: behind a fire a cron timer is Due at the first time behind Stamp, whichever it jumps over.
func TestCronFiresByStamp(t *testing.T) {
	for _, c := range [][2]int{{60, 120}, {61, 120}, {119, 120}, {120, 180}, {121, 180}, {600, 660}, {day, day + 60}, {lastMinute - 60, lastMinute}, {lastMinute - 1, lastMinute}, {lastMinute, 0}, {lastMinute + 59, 0}, {1 << 40, 0}, {math.MaxInt, 0}} {
		s := New(1)
		checkApply(t, s, setCron(4, 1, 7, minutely, 0), done(1, 60))
		checkFires(t, s, fire(7, 1, 60, c[0]))
		checkTimers(t, s, api.Timer{Id: 7, Client: 4, Gen: 1, Due: c[1], Cron: minutely})
		checkFiresNot(t, s, fire(7, 1, 60, c[0]))
		checkFiresNot(t, s, fire(7, 1, 60, math.MaxInt))
		checkLast(t, s, 4, 1, done(1, 60))
	}
}

// P8.2, P8.4: a cron timer that fires many times, with stamps that jump ahead: each time is its own, and they rise, till there is none.
func TestCronFiresRising(t *testing.T) {
	const text = "0 0 13 * 5 +0100"
	s := New(2)
	checkApply(t, s, setCron(1, 1, 7, text, 0), done(1, day-3600))
	checkApply(t, s, setCron(1, 2, 8, minutely, 0), done(2, 60))
	last, fired := 0, 0
	for i := 0; ; i++ {
		timer, _ := s.Get(7)
		if timer.Due == 0 {
			break
		}
		if timer.Due <= last || timer.Gen != 1 || timer.Cron != text {
			t.Fatalf("%+v behind %d", timer, last)
		}
		checkFiresNot(t, s, fire(7, 1, timer.Due, timer.Due-1))
		checkFiresNot(t, s, fire(7, 1, last, math.MaxInt))
		last = timer.Due + i*i*i%(7*day)*(1+i*i)
		checkFires(t, s, fire(7, 1, timer.Due, last))
		fired++
	}
	if fired < 50 || last < lastMinute-40*day {
		t.Fatalf("it fired %d times, at last at %d", fired, last)
	}
	checkTimers(t, s, api.Timer{Id: 7, Client: 1, Gen: 1, Cron: text}, api.Timer{Id: 8, Client: 1, Gen: 2, Due: 60, Cron: minutely})
}

// P8.2: time leaps by a day: a timer of each minute fires once, and then at the next minute.
func TestTimeLeapsByADay(t *testing.T) {
	s := New(1)
	checkApply(t, s, setCron(1, 1, 7, minutely, 0), done(1, 60))
	checkFires(t, s, fire(7, 1, 60, day+5))
	checkFiresNot(t, s, fire(7, 1, 120, day+5))
	checkFiresNot(t, s, fire(7, 1, day+60, day+5))
	checkFires(t, s, fire(7, 1, day+60, day+60))
	checkTimers(t, s, api.Timer{Id: 7, Client: 1, Gen: 1, Due: day + 120, Cron: minutely})
}

// P8.2, P8.4: a fire of a generation that was set anew, or cancelled, does nothing, even if the new one is Due at the same time.
func TestFireBesideSetAndCancel(t *testing.T) {
	s := New(1)
	checkApply(t, s, set(1, 1, 7, 100), done(1, 100))
	checkApply(t, s, set(1, 2, 7, 100), done(2, 100))
	checkFiresNot(t, s, fire(7, 1, 100, 100))
	checkApply(t, s, cancel(1, 3, 7), done(2, 100))
	checkFiresNot(t, s, fire(7, 2, 100, 100))
	checkApply(t, s, set(1, 4, 7, 100), done(3, 100))
	checkFiresNot(t, s, fire(7, 2, 100, 100))
	checkFires(t, s, fire(7, 3, 100, 100))
	checkApply(t, s, set(1, 5, 7, 100), done(4, 100))
	checkFiresNot(t, s, fire(7, 3, 100, 100))
	checkFires(t, s, fire(7, 4, 100, 100))

	checkApply(t, s, setCron(1, 6, 7, minutely, 0), done(5, 60))
	checkFires(t, s, fire(7, 5, 60, 60))
	checkApply(t, s, setCron(1, 7, 7, minutely, 0), done(6, 60))
	checkFiresNot(t, s, fire(7, 5, 60, 60))
	checkFiresNot(t, s, fire(7, 5, 120, 120))
	checkFires(t, s, fire(7, 6, 60, 60))
	checkApply(t, s, cancel(1, 8, 7), done(6, 120))
	checkFiresNot(t, s, fire(7, 6, 120, 120))
}

// P8.2: a fire needs no client, and is remembered for none, not even for the one that it names, nor does its number count.
func TestFireNeedsNoClient(t *testing.T) {
	s := New(4)
	checkApply(t, s, setCron(1, 9, 7, minutely, 0), done(1, 60))
	checkApply(t, s, cancel(2, 9, 8), no(api.ErrNotFound))
	checkApply(t, s, cancel(3, 9, 8), no(api.ErrNotFound))
	due := 60
	for _, client := range []int{0, 1, 2, 4, -1, math.MaxInt, math.MinInt} {
		for _, req := range []int{0, 8, 9, 10, math.MaxInt, math.MinInt} {
			o := fire(7, 1, due, due)
			o.Client, o.Req = client, req
			checkFires(t, s, o)
			checkFiresNot(t, s, o)
			due += 60
		}
	}
	checkClients(t, s, 1, 2, 3)
	checkLast(t, s, 1, 9, done(1, 60))
	checkApply(t, s, cancel(1, 10, 7), done(1, due))
	one := New(1)
	checkFiresNot(t, one, fire(0, 0, 1, 1))
	checkClients(t, one)
	checkUnknown(t, one, 0)
}

// P8.3: an operation of another Kind doesn't fire, whatever else it has.
func TestOnlyFiresFire(t *testing.T) {
	s := busy(t)
	for _, kind := range []int{0, api.OSet, api.OCancel, 4, -3, 259, math.MaxInt, math.MinInt} {
		o := fire(7, 1, 100, 100)
		o.Kind = kind
		if s.Fires(o) {
			t.Fatalf("the kind %d fires", kind)
		}
	}
	if !s.Fires(fire(7, 1, 100, 100)) {
		t.Fatal("it doesn't fire")
	}
}

// P8.2 (Ways): a text is parsed once, however many timers have it, and however often they fire; a refused one, too.
func TestTextsAreParsedOnce(t *testing.T) {
	s := New(3)
	for i := range 3 {
		checkApply(t, s, setCron(1, i, i, minutely, 0), done(i+1, 60))
		checkApply(t, s, setCron(2, i, i, "x", 0), no(api.ErrBadCron))
	}
	for due := 60; due < 6000; due += 60 {
		for i := range 3 {
			checkFires(t, s, fire(i, i+1, due, due))
		}
	}
	if _, parsed := s.cache.Counts(); parsed != 2 {
		t.Fatalf("%d texts were parsed", parsed)
	}
}
