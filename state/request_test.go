package state

import (
	"math"
	"testing"

	"tompion/api"
)

// P8.2, P8.4: a request that comes again is answered as it was, whatever it asks for now, and does nothing.
func TestRequestThatComesAgain(t *testing.T) {
	s := New(2)
	others := func(req int, want api.Reply) {
		t.Helper()
		for _, o := range []api.Op{set(1, req, 7, 100), set(1, req, 9, 5), set(1, req, -1, 5), setCron(1, req, 9, minutely, 5), setCron(1, req, 9, "x", 5), cancel(1, req, 7), cancel(1, req, 8), cancel(1, req, 500)} {
			checkNothing(t, s, o, want)
			checkNothing(t, s, o, want)
		}
		checkLast(t, s, 1, req, want)
	}
	for i, c := range []struct {
		o    api.Op
		want api.Reply
	}{
		{set(1, 1, 7, 100), done(1, 100)}, {setCron(1, 2, 8, minutely, 61), done(2, 120)}, {set(1, 3, 9, 5), no(api.ErrFull)}, {set(1, 4, 1001, 5), no(api.ErrArg)},
		{setCron(1, 5, 7, "x", 5), no(api.ErrBadCron)}, {cancel(1, 6, 9), no(api.ErrNotFound)}, {cancel(1, 7, 7), done(1, 100)}, {setCron(1, 8, 7, never, 0), done(3, 0)}, {set(1, 9, 7, 0), done(4, 0)},
	} {
		checkApply(t, s, c.o, c.want)
		others(i+1, c.want)
	}
	checkApply(t, s, set(1, 10, 7, 1), done(5, 1))
}

// P8.4: a request that comes again is answered as it was, even if the timer has changed, fired or gone since.
func TestComesAgainBehindChanges(t *testing.T) {
	s := New(2)
	checkApply(t, s, set(1, 1, 7, 100), done(1, 100))
	checkApply(t, s, setCron(2, 1, 8, minutely, 0), done(2, 60))
	checkApply(t, s, fire(7, 1, 100, 100), done(1, 100))
	checkApply(t, s, fire(8, 2, 60, 600), done(2, 60))
	checkNothing(t, s, set(1, 1, 7, 100), done(1, 100))
	checkNothing(t, s, setCron(2, 1, 8, minutely, 0), done(2, 60))
	checkApply(t, s, cancel(3, 1, 8), done(2, 660))
	checkNothing(t, s, setCron(2, 1, 8, minutely, 0), done(2, 60))
	checkApply(t, s, set(2, 2, 8, 5), done(3, 5))
	checkNothing(t, s, cancel(3, 1, 8), done(2, 660))
	checkTimers(t, s, api.Timer{Id: 8, Client: 2, Gen: 3, Due: 5})
}

// P8.2: numbers of requests below the last one, that very one, and above it; behind an error, too.
func TestNumbersOfRequests(t *testing.T) {
	for _, last := range []int{math.MinInt, math.MinInt + 1, -5, -1, 0, 1, 7, 1 << 40, math.MaxInt - 1, math.MaxInt} {
		for _, first := range []api.Op{set(1, last, 7, 100), set(1, last, -1, 100), cancel(1, last, 7)} {
			s := New(2)
			want := s.Apply(first)
			checkLast(t, s, 1, last, want)
			for _, req := range []int{math.MinInt, last - 1, last - 7, last, last + 1, math.MaxInt} {
				one := s.Copy()
				switch o := set(1, req, 9, 5); {
				case req < last:
					checkNothing(t, one, o, no(api.ErrOnce))
					checkNothing(t, one, cancel(1, req, 7), no(api.ErrOnce))
					checkLast(t, one, 1, last, want)
				case req == last:
					checkNothing(t, one, o, want)
				default:
					gen := len(one.List()) + 1
					checkApply(t, one, o, done(gen, 5))
					checkLast(t, one, 1, req, done(gen, 5))
					checkNothing(t, one, first, no(api.ErrOnce))
				}
			}
		}
	}
}

// P8.2: an error of a request below the last one isn't remembered: the last one is still answered as it was.
func TestOnceIsntRemembered(t *testing.T) {
	s := New(2)
	checkApply(t, s, set(1, 5, 7, 100), done(1, 100))
	checkNothing(t, s, set(1, 4, 7, 100), no(api.ErrOnce))
	checkNothing(t, s, set(1, 4, 7, 100), no(api.ErrOnce))
	checkNothing(t, s, set(1, 5, 7, 100), done(1, 100))
	checkApply(t, s, set(1, 6, 7, 100), done(2, 100))
	checkNothing(t, s, set(1, 5, 7, 100), no(api.ErrOnce))
}

// P8.2: each client has numbers of its own.
func TestNumbersAreTheClients(t *testing.T) {
	s := New(4)
	checkApply(t, s, set(1, 100, 7, 1), done(1, 1))
	checkApply(t, s, set(2, 3, 8, 2), done(2, 2))
	checkApply(t, s, set(0, 3, 9, 3), done(3, 3))
	checkNothing(t, s, set(2, 3, 7, 9), done(2, 2))
	checkNothing(t, s, set(0, 3, 7, 9), done(3, 3))
	checkNothing(t, s, set(1, 3, 7, 9), no(api.ErrOnce))
	checkApply(t, s, set(2, 4, 7, 9), done(4, 9))
	checkNothing(t, s, set(0, 3, 7, 9), done(3, 3))
	checkLast(t, s, 1, 100, done(1, 1))
	checkLast(t, s, 2, 4, done(4, 9))
	checkLast(t, s, 0, 3, done(3, 3))
}

// P8.2: the third client is remembered, whatever it was answered; the fourth one isn't, and nothing is done for it, ever.
func TestFourthClient(t *testing.T) {
	for _, third := range []struct {
		o    api.Op
		want api.Reply
	}{{set(3, 1, 9, 9), done(3, 9)}, {set(3, 1, 9, -9), no(api.ErrArg)}, {setCron(3, 1, 9, "x", 0), no(api.ErrBadCron)}, {cancel(3, 1, 9), no(api.ErrNotFound)}} {
		s := New(4)
		checkApply(t, s, set(1, 1, 7, 100), done(1, 100))
		checkApply(t, s, setCron(2, 1, 8, minutely, 0), done(2, 60))
		checkApply(t, s, third.o, third.want)
		checkLast(t, s, 3, 1, third.want)
		checkClients(t, s, 1, 2, 3)
		for _, client := range []int{0, 4, -1, math.MaxInt, math.MinInt} {
			for _, o := range []api.Op{set(client, 1, 5, 5), set(client, 2, 7, 5), set(client, 3, -1, 5), setCron(client, 4, 7, "x", 5), cancel(client, 5, 7), cancel(client, 6, 5), set(client, 1, 5, 5), set(client, 0, 5, 5)} {
				checkNothing(t, s, o, no(api.ErrTooManyClients))
			}
			checkUnknown(t, s, client)
		}
		checkNothing(t, s, third.o, third.want)
		checkApply(t, s, cancel(3, 2, 7), done(1, 100))
		checkApply(t, s, set(1, 2, 7, 100), done(2+len(s.List()), 100))
	}
}

// P8.2: clients stay remembered when none of their timers is there any more.
func TestClientsStay(t *testing.T) {
	s := New(4)
	for client := range 3 {
		checkApply(t, s, set(client, 1, client, 5), done(client+1, 5))
		checkApply(t, s, fire(client, client+1, 5, 5), done(client+1, 5))
	}
	checkTimers(t, s)
	checkClients(t, s, 0, 1, 2)
	checkNothing(t, s, set(3, 1, 1, 1), no(api.ErrTooManyClients))
	checkNothing(t, s, set(2, 1, 1, 1), done(3, 5))
}
