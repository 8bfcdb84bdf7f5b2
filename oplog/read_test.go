package oplog

import (
	"math"
	"testing"

	"tompion/api"
)

func checkRequest(t *testing.T, l *Log, client, req, want int) {
	t.Helper()
	if seq, ok := l.Request(client, req); seq != want || !ok {
		t.Fatalf("Request(%d, %d): %d, %v, want %d, true", client, req, seq, ok, want)
	}
}

// checkNoRequest: of clients and their requests.
func checkNoRequest(t *testing.T, l *Log, list ...[2]int) {
	t.Helper()
	for _, x := range list {
		if seq, ok := l.Request(x[0], x[1]); seq != 0 || ok {
			t.Fatalf("Request(%d, %d): %d, %v, want 0, false", x[0], x[1], seq, ok)
		}
	}
}

func checkRead(t *testing.T, l *Log, id, upto int, want api.Reply) {
	t.Helper()
	if got := l.Read(id, upto); got != want {
		t.Fatalf("Read(%d, %d): %+v, want %+v", id, upto, got, want)
	}
}

// checkReads: a timer as it was behind 0 operations, 1, and so on; behind more than there are, it is as behind the last one.
func checkReads(t *testing.T, l *Log, id int, want ...api.Reply) {
	t.Helper()
	for upto, r := range want {
		checkRead(t, l, id, upto, r)
	}
	for _, upto := range []int{len(want), len(want) + 1, 2000, 2001, 1 << 40, math.MaxInt - 1, math.MaxInt} {
		checkRead(t, l, id, upto, want[len(want)-1])
	}
	for _, upto := range []int{0, -1, -2, -len(want), -1 << 40, math.MinInt + 1, math.MinInt} {
		checkRead(t, l, id, upto, gone())
	}
}

func checkNewest(t *testing.T, l *Log, id, want int) {
	t.Helper()
	if got := l.Newest(id); got != want {
		t.Fatalf("Newest(%d): %d, want %d", id, got, want)
	}
}

// P9.2: the number of the first OSet or OCancel of a client and a number, whatever it was answered.
func TestRequest(t *testing.T) {
	l := busy(t)
	for _, c := range [][3]int{{1, 1, 1}, {2, 1, 2}, {2, 2, 3}, {1, 2, 4}, {3, 1, 9}, {1, 3, 10}, {4, 1, 12}, {3, 2, 14}, {1, 4, 16}, {1, 5, 17}, {2, 3, 21}} {
		checkRequest(t, l, c[0], c[1], c[2])
	}
	// Neither a fire, which has a Client and a Req of 0 here, nor one of no kind is a request.
	checkNoRequest(t, l, [2]int{0, 0}, [2]int{1, 9}, [2]int{1, 0}, [2]int{1, 6}, [2]int{2, 4}, [2]int{3, 3}, [2]int{4, 2}, [2]int{4, 0}, [2]int{5, 1}, [2]int{0, 1}, [2]int{-1, 1}, [2]int{1, -1})
	for _, n := range ends() {
		checkNoRequest(t, l, [2]int{n, 1}, [2]int{1, n}, [2]int{n, n})
	}
}

// P9.2: a request that comes again, with another kind or another Id, too, stands where it came first; one that was too old at first, or whose client had no room, likewise.
func TestRequestThatComesAgain(t *testing.T) {
	l := New(2)
	checkAppend(t, l, set(1, 5, 7, 9), 1, done(1, 9))
	checkAppend(t, l, set(1, 5, 7, 9), 2, done(1, 9))
	checkAppend(t, l, cancel(1, 5, 7), 3, done(1, 9))
	checkAppend(t, l, set(1, 4, 8, 9), 4, no(api.ErrOnce))
	checkAppend(t, l, cancel(1, 4, 7), 5, no(api.ErrOnce))
	checkAppend(t, l, cancel(2, 5, 7), 6, done(1, 9))
	checkAppend(t, l, set(2, 5, 7, 9), 7, done(1, 9))
	checkAppend(t, l, cancel(3, 1, 7), 8, gone())
	checkAppend(t, l, set(4, 5, 7, 9), 9, no(api.ErrTooManyClients))
	checkAppend(t, l, set(4, 5, 7, 9), 10, no(api.ErrTooManyClients))
	checkAppend(t, l, set(1, 6, 2000, 9), 11, no(api.ErrArg))
	checkAppend(t, l, set(1, 5, 7, 9), 12, no(api.ErrOnce))
	checkAppend(t, l, set(1, 6, 7, 9), 13, no(api.ErrArg))
	for _, c := range [][3]int{{1, 5, 1}, {1, 4, 4}, {2, 5, 6}, {3, 1, 8}, {4, 5, 9}, {1, 6, 11}} {
		checkRequest(t, l, c[0], c[1], c[2])
	}
	checkNoRequest(t, l, [2]int{5, 4}, [2]int{5, 1}, [2]int{5, 2}, [2]int{1, 3}, [2]int{6, 1}, [2]int{4, 1})
}

// P9.2: a fire, or one of no kind, is no request, whatever its Client and Req; one that comes behind it is.
func TestOnlySetAndCancelAreRequests(t *testing.T) {
	l := New(2)
	seq := 0
	for _, kind := range []int{api.OFire, 0, 4, -1, 257, math.MaxInt, math.MinInt} {
		o := api.Op{Kind: kind, Client: 1, Req: 1, Id: 7, Gen: 1, Occ: 9, Stamp: 9}
		if got, _, e := l.Append(o); e != api.OK {
			t.Fatal(got, e)
		}
		seq++
		checkNoRequest(t, l, [2]int{1, 1})
	}
	checkAppend(t, l, cancel(1, 1, 7), seq+1, gone())
	checkAppend(t, l, set(1, 2, 7, 9), seq+2, done(1, 9))
	o := fire(7, 1, 9, 9)
	o.Client, o.Req = 1, 3
	checkAppend(t, l, o, seq+3, done(1, 9))
	checkNoRequest(t, l, [2]int{1, 3})
	checkRequest(t, l, 1, 1, seq+1)
	checkRequest(t, l, 1, 2, seq+2)
}

// P9.2: clients and numbers of any ints are held apart.
func TestRequestsOfAnyNumbers(t *testing.T) {
	numbers := append(ends(), -1, 0, 1, 2, 100, 101)
	l := New(1)
	for _, client := range numbers {
		for _, req := range numbers {
			checkNoRequest(t, l, [2]int{client, req})
			l.Append(cancel(client, req, 7))
			checkRequest(t, l, client, req, l.Len())
		}
	}
	for i, client := range numbers {
		for k, req := range numbers {
			checkRequest(t, l, client, req, i*len(numbers)+k+1)
		}
	}
}

// P9.2: the example of the document.
func TestSetAndCancel(t *testing.T) {
	l := New(1)
	checkAppend(t, l, set(1, 1, 7, 9), 1, done(1, 9))
	checkAppend(t, l, cancel(1, 2, 7), 2, done(1, 9))
	checkReads(t, l, 7, gone(), done(1, 9), gone())
	checkNewest(t, l, 7, 2)
}

// P9.2: a timer at each change, and between them: set, set anew, cancelled and set again, by several clients.
func TestReadAtEachChange(t *testing.T) {
	l := New(2)
	other := func() { l.Append(set(2, l.Len(), 8, 500)) }
	other()
	checkReads(t, l, 7, gone(), gone())
	checkAppend(t, l, set(1, 1, 7, 9), 2, done(2, 9))
	other()
	other()
	checkAppend(t, l, set(1, 2, 7, 9), 5, done(5, 9))
	checkAppend(t, l, set(3, 1, 7, 0), 6, done(6, 0))
	other()
	checkAppend(t, l, cancel(1, 3, 7), 8, done(6, 0))
	other()
	checkAppend(t, l, set(1, 4, 7, 1<<40), 10, done(9, 1<<40))
	other()
	want := []api.Reply{gone(), gone(), done(2, 9), done(2, 9), done(2, 9), done(5, 9), done(6, 0), done(6, 0), gone(), gone(), done(9, 1<<40), done(9, 1<<40)}
	checkReads(t, l, 7, want...)
	checkNewest(t, l, 7, 10)
	checkReads(t, l, 8, gone(), done(1, 500), done(1, 500), done(3, 500), done(4, 500), done(4, 500), done(4, 500), done(7, 500), done(7, 500), done(8, 500), done(8, 500), done(10, 500))
	checkNewest(t, l, 8, 11)
}

// P9.2: a timer that fires: one without a text is gone, one with a text is due later, or at 0 where it never comes again.
func TestReadBehindFires(t *testing.T) {
	l := New(3)
	checkAppend(t, l, set(1, 1, 7, 9), 1, done(1, 9))
	checkAppend(t, l, setCron(1, 2, 8, minutely, 12), 2, done(2, 60))
	checkAppend(t, l, setCron(1, 3, 9, "59 23 31 12 *", lastMinute-1), 3, done(3, lastMinute))
	checkAppend(t, l, fire(7, 1, 9, 8), 4, gone())
	checkAppend(t, l, fire(7, 1, 9, 9), 5, done(1, 9))
	checkAppend(t, l, fire(7, 1, 9, 9), 6, gone())
	checkAppend(t, l, fire(8, 2, 60, 70), 7, done(2, 60))
	checkAppend(t, l, fire(8, 2, 120, day), 8, done(2, 120))
	checkAppend(t, l, fire(8, 2, 120, day), 9, gone())
	checkAppend(t, l, fire(9, 3, lastMinute, lastMinute), 10, done(3, lastMinute))
	checkAppend(t, l, fire(9, 3, 0, lastMinute), 11, gone())
	checkReads(t, l, 7, gone(), done(1, 9), done(1, 9), done(1, 9), done(1, 9), gone(), gone(), gone(), gone(), gone(), gone(), gone())
	checkReads(t, l, 8, gone(), gone(), done(2, 60), done(2, 60), done(2, 60), done(2, 60), done(2, 60), done(2, 120), done(2, day+60), done(2, day+60), done(2, day+60), done(2, day+60))
	checkReads(t, l, 9, gone(), gone(), gone(), done(3, lastMinute), done(3, lastMinute), done(3, lastMinute), done(3, lastMinute), done(3, lastMinute), done(3, lastMinute), done(3, lastMinute), done(3, 0), done(3, 0))
	checkNewest(t, l, 7, 5)
	checkNewest(t, l, 8, 8)
	checkNewest(t, l, 9, 10)
	checkTimers(t, l, api.Timer{Id: 8, Client: 1, Gen: 2, Due: day + 60, Cron: minutely}, api.Timer{Id: 9, Client: 1, Gen: 3, Cron: "59 23 31 12 *"})
}

// P9.2: an Id that was never set, also one that operations were refused for, or that may not be.
func TestReadOfNone(t *testing.T) {
	l := busy(t)
	for _, id := range append(ends(), -1, 0, 1, 2, 6, 8, 9, 1000, 1001) {
		for _, upto := range append(ends(), -1, 0, 1, 5, 21, 22, 2000) {
			checkRead(t, l, id, upto, gone())
		}
		checkNewest(t, l, id, 0)
	}
}

// P9.2: the least Id and the greatest one, and those that are refused beside them.
func TestReadAtTheEdgesOfIds(t *testing.T) {
	l := New(4)
	checkAppend(t, l, set(1, 1, 0, 5), 1, done(1, 5))
	checkAppend(t, l, set(1, 2, 1000, 6), 2, done(2, 6))
	checkAppend(t, l, set(1, 3, -1, 7), 3, no(api.ErrArg))
	checkAppend(t, l, set(1, 4, 1001, 8), 4, no(api.ErrArg))
	checkReads(t, l, 0, gone(), done(1, 5), done(1, 5), done(1, 5), done(1, 5))
	checkReads(t, l, 1000, gone(), gone(), done(2, 6), done(2, 6), done(2, 6))
	checkReads(t, l, -1, gone(), gone(), gone(), gone(), gone())
	checkReads(t, l, 1001, gone(), gone(), gone(), gone(), gone())
	for id, want := range map[int]int{0: 1, 1000: 2, -1: 0, 1001: 0, 256: 0, 999: 0} {
		checkNewest(t, l, id, want)
	}
}

// P9.2: what does nothing changes no timer: what is refused, a request that comes again (with the same and with another kind and Id), and a fire beside the mark.
func TestNewestBehindWhatDoesNothing(t *testing.T) {
	l := New(2)
	checkNewest(t, l, 7, 0)
	checkAppend(t, l, set(1, 5, 7, 100), 1, done(1, 100))
	checkNewest(t, l, 7, 1)
	checkAppend(t, l, setCron(2, 5, 8, minutely, 0), 2, done(2, 60))
	checkNewest(t, l, 7, 1)
	checkNewest(t, l, 8, 2)
	nothing := []struct {
		op   api.Op
		want api.Reply
	}{
		{set(1, 5, 7, 100), done(1, 100)}, {set(1, 5, 7, 200), done(1, 100)}, {set(1, 5, 8, 100), done(1, 100)}, {set(1, 5, 9, 100), done(1, 100)},
		{cancel(1, 5, 7), done(1, 100)}, {cancel(1, 5, 8), done(1, 100)}, {cancel(2, 5, 8), done(2, 60)}, {cancel(2, 5, 7), done(2, 60)},
		{set(1, 4, 7, 5), no(api.ErrOnce)}, {cancel(2, 4, 8), no(api.ErrOnce)},
		{set(1, 6, 7, -1), no(api.ErrArg)}, {setCron(1, 7, 7, "x", 0), no(api.ErrBadCron)}, {set(1, 8, 9, 5), no(api.ErrFull)}, {cancel(1, 9, 9), gone()}, {cancel(1, 9, 7), gone()},
		{fire(7, 1, 100, 99), gone()}, {fire(7, 2, 100, 100), gone()}, {fire(7, 1, 101, 101), gone()}, {fire(8, 2, 0, 60), gone()}, {fire(8, 1, 60, 60), gone()}, {fire(9, 1, 100, 100), gone()},
		{api.Op{Kind: 4, Client: 1, Req: 10, Id: 7}, no(api.ErrArg)}, {api.Op{}, no(api.ErrArg)},
	}
	for i, x := range nothing {
		checkAppend(t, l, x.op, 3+i, x.want)
		checkNewest(t, l, 7, 1)
		checkNewest(t, l, 8, 2)
		checkNewest(t, l, 9, 0)
		checkRead(t, l, 7, 3+i, done(1, 100))
		checkRead(t, l, 8, 3+i, done(2, 60))
		checkRead(t, l, 9, 3+i, gone())
	}
	checkTimers(t, l, api.Timer{Id: 7, Client: 1, Gen: 1, Due: 100}, api.Timer{Id: 8, Client: 2, Gen: 2, Due: 60, Cron: minutely})
	n := l.Len()
	checkAppend(t, l, cancel(3, 1, 7), n+1, done(1, 100))
	checkNewest(t, l, 7, n+1)
	checkAppend(t, l, cancel(3, 1, 8), n+2, done(1, 100))
	checkNewest(t, l, 8, 2)
	checkAppend(t, l, fire(8, 2, 60, 60), n+3, done(2, 60))
	checkNewest(t, l, 8, n+3)
	checkAppend(t, l, set(3, 2, 7, 100), n+4, done(3, 100))
	checkNewest(t, l, 7, n+4)
	checkAppend(t, l, fire(7, 3, 100, 100), n+5, done(3, 100))
	checkNewest(t, l, 7, n+5)
	checkNewest(t, l, 9, 0)
}

// P9.2: Timers are by Ids, rising, with none, some and all.
func TestTimers(t *testing.T) {
	l := New(3)
	checkTimers(t, l)
	five, two, nine := api.Timer{Id: 5, Client: 1, Gen: 1, Due: 50}, api.Timer{Id: 2, Client: 2, Gen: 2, Cron: never}, api.Timer{Id: 9, Client: 1, Gen: 3, Due: 60, Cron: minutely}
	l.Append(set(1, 1, 5, 50))
	checkTimers(t, l, five)
	l.Append(setCron(2, 1, 2, never, 0))
	checkTimers(t, l, two, five)
	l.Append(setCron(1, 2, 9, minutely, 0))
	checkTimers(t, l, two, five, nine)
	l.Append(set(1, 3, 4, 50))
	checkTimers(t, l, two, five, nine)
	l.Append(fire(9, 3, 60, 60))
	nine.Due = 120
	checkTimers(t, l, two, five, nine)
	l.Append(fire(5, 1, 50, 60))
	checkTimers(t, l, two, nine)
	l.Append(cancel(2, 2, 9))
	checkTimers(t, l, two)
	l.Append(cancel(2, 3, 2))
	checkTimers(t, l)
}

// P9.5: a timer as it was behind some operations stays so, whatever is appended behind, and whatever is asked in between.
func TestReadStays(t *testing.T) {
	l := New(4)
	var was [][]api.Reply
	for i := 0; i <= len(busyOps()); i++ {
		if i > 0 {
			l.Append(busyOps()[i-1])
		}
		var now []api.Reply
		for id := range 12 {
			now = append(now, l.Read(id, i))
		}
		was = append(was, now)
		l.Due(i*i*i*100, 3)
		for upto := range was {
			for id, want := range was[upto] {
				checkRead(t, l, id, upto, want)
			}
		}
	}
	for n := l.Len(); n < api.MaxLog; n++ {
		l.Append([]api.Op{set(1, n, n%10, n), cancel(1, n, n%9), setCron(2, n, n%8, minutely, n), fire(n%8, n/4, 60, 99999)}[n%4])
	}
	for upto := range was {
		for id, want := range was[upto] {
			checkRead(t, l, id, upto, want)
		}
	}
}
