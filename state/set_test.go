package state

import (
	"math"
	"strings"
	"testing"

	"tompion/api"
)

// P8.2: the document's example.
func TestExample(t *testing.T) {
	s := New(16)
	checkApply(t, s, set(1, 1, 7, 100), done(1, 100))
	checkNothing(t, s, fire(7, 1, 100, 99), no(api.ErrNotFound))
	checkApply(t, s, fire(7, 1, 100, 100), done(1, 100))
	checkNothing(t, s, fire(7, 1, 100, 100), no(api.ErrNotFound))
	checkTimers(t, s)
}

// P8.2: the Ids that a timer may have.
func TestSetById(t *testing.T) {
	for _, id := range []int{0, 1, 7, 63, 64, 500, 999, 1000} {
		s := New(1)
		checkApply(t, s, set(5, 1, id, 9), done(1, 9))
		checkTimers(t, s, api.Timer{Id: id, Client: 5, Gen: 1, Due: 9})
		checkLast(t, s, 5, 1, done(1, 9))
		checkApply(t, s, cancel(5, 2, id), done(1, 9))
		checkApply(t, s, setCron(5, 3, id, minutely, 9), done(2, 60))
		checkTimers(t, s, api.Timer{Id: id, Client: 5, Gen: 2, Due: 60, Cron: minutely})
	}
	for _, id := range ends() {
		s := New(1)
		checkApply(t, s, set(5, 1, id, 9), no(api.ErrArg))
		checkLast(t, s, 5, 1, no(api.ErrArg))
		checkApply(t, s, setCron(5, 2, id, minutely, 9), no(api.ErrArg))
		checkLast(t, s, 5, 2, no(api.ErrArg))
		checkTimers(t, s)
		checkApply(t, s, set(5, 3, 0, 9), done(1, 9))
	}
}

// P8.2: the times that a timer without a cron text may be Due at; Stamp says nothing of it.
func TestSetByDue(t *testing.T) {
	for _, due := range []int{0, 1, 59, 60, 1001, lastMinute, 1 << 32, 1<<40 - 1, 1 << 40} {
		for _, stamp := range append(ends(), 0, due) {
			s := New(1)
			o := set(5, 1, 3, due)
			o.Stamp = stamp
			checkApply(t, s, o, done(1, due))
			checkTimers(t, s, api.Timer{Id: 3, Client: 5, Gen: 1, Due: due})
		}
	}
	for _, due := range []int{math.MinInt, -1 << 40, -2, -1, 1<<40 + 1, 1 << 41, math.MaxInt} {
		s := New(1)
		checkApply(t, s, set(5, 1, 3, due), no(api.ErrArg))
		checkLast(t, s, 5, 1, no(api.ErrArg))
		checkTimers(t, s)
		checkApply(t, s, set(5, 2, 3, 9), done(1, 9))
	}
}

// P8.2: beside a cron text Due is 0.
func TestSetByDueBesideCron(t *testing.T) {
	for _, due := range []int{math.MinInt, -1, 1, 59, 60, 120, 1 << 40, 1<<40 + 1, math.MaxInt} {
		for _, text := range []string{minutely, never, "x", " "} {
			s := New(1)
			o := setCron(5, 1, 3, text, 61)
			o.Due = due
			checkApply(t, s, o, no(api.ErrArg))
			checkLast(t, s, 5, 1, no(api.ErrArg))
			checkTimers(t, s)
		}
	}
}

// P8.2: the first time of a text behind Stamp; 0, if there is none.
func TestSetByCron(t *testing.T) {
	full := minutely + strings.Repeat(" ", api.MaxText-len(minutely))
	for _, c := range []struct {
		text       string
		stamp, due int
	}{
		{minutely, 0, 60}, {minutely, 1, 60}, {minutely, 59, 60}, {minutely, 60, 120}, {minutely, 61, 120},
		{full, 61, 120}, {full[9:] + minutely, 61, 120}, {" \t* * *\t* * ", 61, 120},
		{"1 0 * * *", -1, 60}, {"1 0 * * *", math.MinInt, 60}, {"1 0 * * *", 0, 60}, {"1 0 * * *", 60, day + 60},
		{"0 0 1 1 *", 0, 365 * day}, {"0 0 1 1 *", 1, 365 * day},
		{"0 0 13 * 5", 0, day}, {"0 0 13 * 5", day, 8 * day}, {"0 0 13 * 5", 8 * day, 12 * day},
		{"30 10 * * * +0100", 0, 34200}, {"30 10 * * * +0100", 34200, day + 34200},
		{"0 0 29 2 *", 978307200, 1078012800},
		{minutely, lastMinute - 1, lastMinute}, {minutely, lastMinute, 0}, {minutely, lastMinute + 59, 0}, {minutely, lastMinute + 60, 0}, {minutely, 1 << 40, 0}, {minutely, math.MaxInt, 0},
		{never, 0, 0}, {never, -1, 0}, {never, lastMinute, 0}, {never, math.MaxInt, 0}, {never, math.MinInt, 0},
		// The very first second is a time, too, and only one behind it is above 0.
		{minutely, -1, 0}, {minutely, -60, 0}, {minutely, math.MinInt, 0}, {"0 0 1 1 *", -1, 0},
	} {
		s := New(1)
		checkApply(t, s, setCron(5, 1, 3, c.text, c.stamp), done(1, c.due))
		checkTimers(t, s, api.Timer{Id: 3, Client: 5, Gen: 1, Due: c.due, Cron: c.text})
		checkLast(t, s, 5, 1, done(1, c.due))
	}
}

// P8.2: a text that is refused, each time, whatever Stamp is; one that is longer than a cron text may be, too.
func TestSetByRefusedCron(t *testing.T) {
	for _, text := range []string{" ", "x", "* * *", "60 * * * *", "* * * * * *", "* * * * 8", "0 0 0 1 *", "* * * * * +1500", "\x00", "\xff\xfe* * * * *",
		minutely + strings.Repeat(" ", api.MaxText+1-len(minutely)), strings.Repeat("1,", 200) + "1 * * * *", strings.Repeat("9", 1<<16)} {
		s := New(1)
		for i, stamp := range []int{0, 61, -1, math.MinInt, lastMinute, math.MaxInt} {
			checkApply(t, s, setCron(5, 2*i, 3, text, stamp), no(api.ErrBadCron))
			checkLast(t, s, 5, 2*i, no(api.ErrBadCron))
			checkNothing(t, s, setCron(5, 2*i, 3, minutely, stamp), no(api.ErrBadCron))
			checkTimers(t, s)
		}
		checkApply(t, s, setCron(5, 98, 3, minutely, 0), done(1, 60))
		checkApply(t, s, setCron(5, 99, 3, text, 0), no(api.ErrBadCron))
		checkTimers(t, s, api.Timer{Id: 3, Client: 5, Gen: 1, Due: 60, Cron: minutely})
	}
}

// P8.2: which of several errors is answered; a set that is refused takes no generation and no place.
func TestErrorsOfSetInOrder(t *testing.T) {
	s := New(1)
	checkApply(t, s, set(1, 1, 7, 100), done(1, 100))
	wrong := api.Op{Kind: api.OSet, Client: 1, Id: 1001, Due: 1, Cron: "x"}
	for i, c := range []struct {
		id, due int
		cron    string
		e       api.Errno
	}{
		{1001, 1, "x", api.ErrArg}, {8, 1, "x", api.ErrArg}, {-1, 0, "x", api.ErrArg}, {-1, 5, "", api.ErrArg}, {8, -1, "", api.ErrArg},
		{8, 0, "x", api.ErrBadCron}, {7, 0, "x", api.ErrBadCron}, {8, 0, minutely, api.ErrFull}, {8, 0, never, api.ErrFull}, {8, 5, "", api.ErrFull},
	} {
		checkApply(t, s, api.Op{Kind: api.OSet, Client: 1, Req: 2 + i, Id: c.id, Due: c.due, Cron: c.cron}, no(c.e))
		checkLast(t, s, 1, 2+i, no(c.e))
		checkTimers(t, s, api.Timer{Id: 7, Client: 1, Gen: 1, Due: 100})
		checkNothing(t, s, wrong, no(api.ErrOnce))
	}
	checkApply(t, s, set(1, 50, 7, 200), done(2, 200))
	checkApply(t, s, set(2, 1, 1001, 0), no(api.ErrArg))
	checkApply(t, s, cancel(3, 1, 1001), no(api.ErrNotFound))
	wrong.Client, wrong.Req = 4, 99
	checkNothing(t, s, wrong, no(api.ErrTooManyClients))
	checkNothing(t, s, cancel(4, 99, 1001), no(api.ErrTooManyClients))
	wrong.Kind = 4
	checkNothing(t, s, wrong, no(api.ErrArg))
}

// P8.2: a timer that is set in place of an older one, with room and without, by another client, with a text and without.
func TestSetInPlace(t *testing.T) {
	for _, room := range []int{1, 2, 16} {
		s := New(room)
		checkApply(t, s, set(1, 1, 7, 100), done(1, 100))
		checkApply(t, s, set(1, 2, 7, 100), done(2, 100))
		checkTimers(t, s, api.Timer{Id: 7, Client: 1, Gen: 2, Due: 100})
		checkApply(t, s, setCron(2, 1, 7, minutely, 61), done(3, 120))
		checkTimers(t, s, api.Timer{Id: 7, Client: 2, Gen: 3, Due: 120, Cron: minutely})
		checkApply(t, s, setCron(1, 3, 7, never, 61), done(4, 0))
		checkTimers(t, s, api.Timer{Id: 7, Client: 1, Gen: 4, Cron: never})
		checkApply(t, s, set(3, 1, 7, 5), done(5, 5))
		checkTimers(t, s, api.Timer{Id: 7, Client: 3, Gen: 5, Due: 5})
		checkApply(t, s, set(3, 2, 7, -5), no(api.ErrArg))
		checkApply(t, s, setCron(3, 3, 7, "x", 5), no(api.ErrBadCron))
		checkTimers(t, s, api.Timer{Id: 7, Client: 3, Gen: 5, Due: 5})
		checkNothing(t, s, fire(7, 1, 100, 100), no(api.ErrNotFound))
		checkNothing(t, s, fire(7, 3, 120, 120), no(api.ErrNotFound))
		checkApply(t, s, fire(7, 5, 5, 5), done(5, 5))
	}
}

// P8.2: generations are the service's, not the Id's; none comes again behind a cancel, a fire, or an error.
func TestGenerations(t *testing.T) {
	s := New(2)
	checkApply(t, s, set(1, 1, 7, 100), done(1, 100))
	checkApply(t, s, set(1, 2, 8, 100), done(2, 100))
	checkApply(t, s, set(1, 3, 9, 100), no(api.ErrFull))
	checkApply(t, s, cancel(1, 4, 8), done(2, 100))
	checkApply(t, s, set(1, 5, 8, 100), done(3, 100))
	checkApply(t, s, fire(7, 1, 100, 100), done(1, 100))
	checkApply(t, s, set(1, 6, 7, 100), done(4, 100))
	checkApply(t, s, cancel(1, 7, 7), done(4, 100))
	checkApply(t, s, cancel(1, 8, 8), done(3, 100))
	checkApply(t, s, setCron(1, 9, 9, minutely, 0), done(5, 60))
	checkApply(t, s, fire(9, 5, 60, 60), done(5, 60))
	checkApply(t, s, set(1, 9, 10, 1), done(5, 60))
	checkApply(t, s, set(1, 10, 10, 1), done(6, 1))
	checkTimers(t, s, api.Timer{Id: 9, Client: 1, Gen: 5, Due: 120, Cron: minutely}, api.Timer{Id: 10, Client: 1, Gen: 6, Due: 1})
}

// P8.2: a cancel of a timer that is there, by whomever, that isn't, and that has fired.
func TestCancel(t *testing.T) {
	s := New(4)
	checkApply(t, s, cancel(1, 1, 7), no(api.ErrNotFound))
	checkLast(t, s, 1, 1, no(api.ErrNotFound))
	checkApply(t, s, set(1, 2, 7, 100), done(1, 100))
	checkApply(t, s, setCron(1, 3, 8, minutely, 61), done(2, 120))
	checkApply(t, s, setCron(1, 4, 0, never, 61), done(3, 0))
	checkApply(t, s, cancel(2, 1, 7), done(1, 100))
	checkLast(t, s, 2, 1, done(1, 100))
	checkGone(t, s, 7)
	checkApply(t, s, cancel(2, 2, 7), no(api.ErrNotFound))
	checkLast(t, s, 2, 2, no(api.ErrNotFound))
	checkNothing(t, s, fire(7, 1, 100, 100), no(api.ErrNotFound))

	checkApply(t, s, fire(8, 2, 120, 200), done(2, 120))
	checkApply(t, s, cancel(1, 5, 8), done(2, 240))
	checkApply(t, s, cancel(1, 6, 0), done(3, 0))
	checkTimers(t, s)

	checkApply(t, s, set(1, 7, 9, 5), done(4, 5))
	checkApply(t, s, fire(9, 4, 5, 5), done(4, 5))
	checkApply(t, s, cancel(1, 8, 9), no(api.ErrNotFound))
	for i, id := range ends() {
		checkApply(t, s, cancel(1, 9+i, id), no(api.ErrNotFound))
		checkLast(t, s, 1, 9+i, no(api.ErrNotFound))
	}
}

// P8.2: of a cancel only Client, Req and Id are asked for; of a set not Gen, Occ and Epoch.
func TestFieldsThatAreNotAskedFor(t *testing.T) {
	for _, n := range append(ends(), 0, 7) {
		s := New(1)
		checkApply(t, s, api.Op{Kind: api.OSet, Client: 1, Req: 1, Id: 7, Due: 100, Gen: n, Occ: n, Epoch: n, Stamp: n}, done(1, 100))
		checkApply(t, s, api.Op{Kind: api.OCancel, Client: 1, Req: 2, Id: 7, Gen: n, Occ: n, Due: n, Stamp: n, Epoch: n, Cron: "x"}, done(1, 100))
		checkApply(t, s, api.Op{Kind: api.OSet, Client: 1, Req: 3, Id: 7, Cron: minutely, Gen: n, Occ: n, Epoch: n}, done(2, 60))
		checkApply(t, s, api.Op{Kind: api.OFire, Id: 7, Gen: 2, Occ: 60, Stamp: 60, Client: n, Req: n, Due: n, Epoch: n, Cron: "x"}, done(2, 60))
		checkTimers(t, s, api.Timer{Id: 7, Client: 1, Gen: 2, Due: 120, Cron: minutely})
		checkClients(t, s, 1)
	}
}

// P8.2: another Kind does nothing, remembers nobody, and asks for no client.
func TestOtherKinds(t *testing.T) {
	for _, kind := range []int{0, 4, 5, -1, -2, -3, 257, 1<<32 + 1, math.MinInt, math.MinInt + 1, math.MaxInt} {
		s := busy(t)
		for _, o := range []api.Op{{}, set(1, 9, 1, 1), set(1, 1, 1, 1), set(1, 0, 1, 1), setCron(3, 1, 1, "x", 0), cancel(1, 9, 7), fire(7, 1, 100, 100)} {
			o.Kind = kind
			checkNothing(t, s, o, no(api.ErrArg))
			if s.Fires(o) {
				t.Fatalf("the kind %d fires", kind)
			}
		}
		checkUnknown(t, s, 0, 3)
		checkApply(t, s, set(3, 1, 1, 1), done(4, 1))
	}
}
