package oplog

import (
	"math"
	"slices"
	"testing"

	"tompion/api"
)

func checkFire(t *testing.T, l *Log, want api.Fire) {
	t.Helper()
	if got, ok := l.Fire(want.Seq); got != want || !ok {
		t.Fatalf("Fire(%d): %+v, %v, want %+v, true", want.Seq, got, ok, want)
	}
}

func checkNoFire(t *testing.T, l *Log, seqs ...int) {
	t.Helper()
	for _, seq := range seqs {
		if got, ok := l.Fire(seq); got != (api.Fire{}) || ok {
			t.Fatalf("Fire(%d): %+v, %v, want none", seq, got, ok)
		}
	}
}

// checkFires: ask is a client, from, upto and most.
func checkFires(t *testing.T, l *Log, ask [4]int, next int, want ...api.Fire) {
	t.Helper()
	list, got := l.Fires(ask[0], ask[1], ask[2], ask[3])
	if !slices.Equal(list, want) || got != next {
		t.Fatalf("Fires%v: %+v, %d, want %+v, %d", ask, list, got, want, next)
	}
}

// checkDue: by the Ids, generations and times of those that are due.
func checkDue(t *testing.T, l *Log, now, most int, want ...api.Op) {
	t.Helper()
	if got := l.Due(now, most); !slices.Equal(got, want) {
		t.Fatalf("Due(%d, %d): %+v, want %+v", now, most, got, want)
	}
}

// fired: a log in which timers of two clients fire, five of the client 1's, two of the client 2's.
func fired(t *testing.T) (l *Log, one, two []api.Fire) {
	t.Helper()
	l = New(4)
	checkAppend(t, l, setCron(1, 1, 7, minutely, 0), 1, done(1, 60))
	checkAppend(t, l, set(2, 1, 8, 70), 2, done(2, 70))
	checkAppend(t, l, fire(7, 1, 60, 61), 3, done(1, 60))
	checkAppend(t, l, fire(8, 2, 70, 71), 4, done(2, 70))
	checkAppend(t, l, fire(8, 2, 70, 71), 5, gone())
	checkAppend(t, l, fire(7, 1, 120, 121), 6, done(1, 120))
	checkAppend(t, l, setCron(2, 2, 7, minutely, 130), 7, done(3, 180))
	checkAppend(t, l, fire(7, 1, 180, 180), 8, gone())
	checkAppend(t, l, fire(7, 3, 180, 180), 9, done(3, 180))
	checkAppend(t, l, setCron(1, 2, 7, minutely, 190), 10, done(4, 240))
	checkAppend(t, l, fire(7, 4, 240, 1000), 11, done(4, 240))
	checkAppend(t, l, fire(7, 4, 1020, 1020), 12, done(4, 1020))
	checkAppend(t, l, cancel(2, 3, 7), 13, done(4, 1080))
	checkAppend(t, l, set(1, 3, 5, 1), 14, done(5, 1))
	checkAppend(t, l, fire(5, 5, 1, math.MaxInt), 15, done(5, 1))
	checkAppend(t, l, cancel(3, 1, 7), 16, gone())
	one = []api.Fire{{Seq: 3, Client: 1, Id: 7, Gen: 1, Occ: 60, Stamp: 61}, {Seq: 6, Client: 1, Id: 7, Gen: 1, Occ: 120, Stamp: 121}, {Seq: 11, Client: 1, Id: 7, Gen: 4, Occ: 240, Stamp: 1000}, {Seq: 12, Client: 1, Id: 7, Gen: 4, Occ: 1020, Stamp: 1020}, {Seq: 15, Client: 1, Id: 5, Gen: 5, Occ: 1, Stamp: math.MaxInt}}
	two = []api.Fire{{Seq: 4, Client: 2, Id: 8, Gen: 2, Occ: 70, Stamp: 71}, {Seq: 9, Client: 2, Id: 7, Gen: 3, Occ: 180, Stamp: 180}}
	return l, one, two
}

// P9.3: Fire tells what fired at a number, whoever's it was, and nothing of a set, a cancel and a fire that did nothing.
func TestFire(t *testing.T) {
	l, one, two := fired(t)
	for _, f := range append(one, two...) {
		checkFire(t, l, f)
	}
	checkNoFire(t, l, 1, 2, 5, 7, 8, 10, 13, 14, 16)
	checkNoFire(t, l, append(ends(), -1, -3, 0, 17, 18, 2000)...)
	checkAppend(t, l, fire(7, 1, 60, 61), 17, gone())
	checkNoFire(t, l, 17, 18)
	for _, f := range append(one, two...) {
		checkFire(t, l, f)
	}
}

// P9.3: a fire's client is the one that set the timer, whatever the operation's Client and Req are, and its generation that of the timer.
func TestFiresClientIsTheTimers(t *testing.T) {
	l := New(2)
	checkAppend(t, l, setCron(1, 1, 7, minutely, 0), 1, done(1, 60))
	checkAppend(t, l, cancel(2, 1, 8), 2, gone())
	for i, client := range []int{2, 0, 1, math.MaxInt, math.MinInt} {
		o := api.Op{Kind: api.OFire, Client: client, Req: 7, Id: 7, Gen: 1, Occ: 60 + 60*i, Due: 5, Stamp: 60 + 60*i, Epoch: 3}
		checkAppend(t, l, o, 3+i, done(1, 60+60*i))
		f := api.Fire{Seq: 3 + i, Client: 1, Id: 7, Gen: 1, Occ: 60 + 60*i, Stamp: 60 + 60*i}
		checkFire(t, l, f)
		checkFires(t, l, [4]int{1, 2 + i, 99, 9}, 3+i, f)
		if client != 1 {
			checkFires(t, l, [4]int{client, 0, 99, 9}, 3+i)
		}
	}
}

// P9.3: a client that set the timer 0, or has the number 0, is told of its fires, too.
func TestFiresOfZeroes(t *testing.T) {
	for _, client := range append(ends(), -1, 0, 100) {
		l := New(1)
		checkAppend(t, l, set(client, 0, 0, 5), 1, done(1, 5))
		checkAppend(t, l, fire(0, 1, 5, 5), 2, done(1, 5))
		f := api.Fire{Seq: 2, Client: client, Gen: 1, Occ: 5, Stamp: 5}
		checkFire(t, l, f)
		checkFires(t, l, [4]int{client, 0, 9, 9}, 2, f)
		checkFires(t, l, [4]int{client + 1, 0, 9, 9}, 2)
	}
}

// P9.3: a timer that another client set anew fires for that one; what fired before stays the first one's.
func TestFiresOfATimerSetAnew(t *testing.T) {
	l, one, two := fired(t)
	checkFires(t, l, [4]int{1, 0, 99, 99}, 16, one...)
	checkFires(t, l, [4]int{2, 0, 99, 99}, 16, two...)
	checkFires(t, l, [4]int{3, 0, 99, 99}, 16)
	checkFires(t, l, [4]int{0, 0, 99, 99}, 16)
	for _, n := range append(ends(), -1) {
		checkFires(t, l, [4]int{n, 0, 99, 99}, 16)
	}
}

// P9.3: only numbers above from, and at most upto; where fewer than most are told, next is the greater one of from and the lesser one of upto and Len.
func TestFiresBetween(t *testing.T) {
	l, one, two := fired(t)
	numbers := append(ends(), -2, -1, 0, 17, 18, 99)
	for n := range 17 {
		numbers = append(numbers, n)
	}
	for _, from := range numbers {
		for _, upto := range numbers {
			for client, all := range [][]api.Fire{nil, one, two, nil} {
				var want []api.Fire
				for _, f := range all {
					if from < f.Seq && f.Seq <= upto {
						want = append(want, f)
					}
				}
				next := upto
				if next > 16 {
					next = 16
				}
				if next < from {
					next = from
				}
				checkFires(t, l, [4]int{client, from, upto, len(want) + 1}, next, want...)
				checkFires(t, l, [4]int{client, from, upto, 2000}, next, want...)
				checkFires(t, l, [4]int{client, from, upto, math.MaxInt}, next, want...)
				for _, most := range []int{0, -1, -len(want), math.MinInt} {
					checkFires(t, l, [4]int{client, from, upto, most}, next)
				}
				for most := 1; most <= len(want); most++ {
					checkFires(t, l, [4]int{client, from, upto, most}, want[most-1].Seq, want[:most]...)
				}
			}
		}
	}
}

// P9.3: what is told as next, in cases that are written out.
func TestFiresNext(t *testing.T) {
	l, one, two := fired(t)
	for _, c := range []struct {
		ask  [4]int
		next int
		want []api.Fire
	}{
		{[4]int{1, 0, 16, 5}, 15, one},     // just as many
		{[4]int{1, 0, 16, 6}, 16, one},     // one more
		{[4]int{1, 0, 16, 4}, 12, one[:4]}, // one fewer
		{[4]int{1, 0, 16, 1}, 3, one[:1]},
		{[4]int{1, 3, 16, 1}, 6, one[1:2]}, // from is left out
		{[4]int{1, 2, 3, 1}, 3, one[:1]},   // upto is among them
		{[4]int{1, 2, 2, 1}, 2, nil},
		{[4]int{1, 3, 3, 1}, 3, nil},
		{[4]int{1, 15, 16, 1}, 16, nil},
		{[4]int{1, 14, 15, 1}, 15, one[4:]},
		{[4]int{1, 14, 15, 2}, 15, one[4:]},
		{[4]int{1, 12, 14, 1}, 14, nil},
		{[4]int{2, 4, 8, 3}, 8, nil},
		{[4]int{2, 4, 9, 3}, 9, two[1:]},
		{[4]int{2, 4, 1000, 3}, 16, two[1:]}, // behind Len
		{[4]int{2, 16, 1000, 3}, 16, nil},
		{[4]int{2, 17, 1000, 3}, 17, nil}, // from behind Len
		{[4]int{2, 1000, 1000, 3}, 1000, nil},
		{[4]int{2, 9, 4, 3}, 9, nil}, // upto below from
		{[4]int{2, 9, -7, 3}, 9, nil},
		{[4]int{2, -5, -7, 3}, -5, nil},
		{[4]int{2, -7, -5, 3}, -5, nil},
		{[4]int{2, -7, 0, 3}, 0, nil},
		{[4]int{2, -7, 4, 3}, 4, two[:1]},
		{[4]int{1, 0, 16, 0}, 16, nil}, // none is looked for
		{[4]int{1, 4, 1000, -1}, 16, nil},
		{[4]int{1, 4, 10, 0}, 10, nil},
		{[4]int{1, 40, 10, 0}, 40, nil},
		{[4]int{3, 0, 12, 1}, 12, nil}, // of a client that set none
		{[4]int{3, 0, 1000, 1}, 16, nil},
		{[4]int{3, 1000, 5, 1}, 1000, nil},
		{[4]int{1, 3, math.MaxInt, 2}, 11, one[1:3]},
		{[4]int{1, math.MaxInt, math.MaxInt, 2}, math.MaxInt, nil},
		{[4]int{1, math.MaxInt, math.MinInt, 2}, math.MaxInt, nil},
		{[4]int{1, math.MinInt, math.MinInt, 2}, math.MinInt, nil},
		{[4]int{1, math.MinInt, math.MaxInt, math.MaxInt}, 16, one},
	} {
		checkFires(t, l, c.ask, c.next, c.want...)
	}
}

// P9.3: whoever asks on from next, by any steps, is told each fire once.
func TestFiresByNext(t *testing.T) {
	l, one, _ := fired(t)
	for most := 1; most < 7; most++ {
		for step := 1; step < 20; step++ {
			var all []api.Fire
			for from := 0; from < l.Len(); {
				list, next := l.Fires(1, from, from+step, most)
				if next <= from || next > l.Len() {
					t.Fatalf("%d behind %d", next, from)
				}
				all, from = append(all, list...), next
			}
			if !slices.Equal(all, one) {
				t.Fatalf("by %d, and %d at most: %+v", step, most, all)
			}
		}
	}
}

// P9.4: a timer is due at its very time and behind it, not ahead; times may go back.
func TestDueAtItsTime(t *testing.T) {
	for _, due := range []int{1, 2, 63, 64, 65, 100, 4096, day, lastMinute, 1<<40 - 1, 1 << 40} {
		l := New(2)
		checkAppend(t, l, set(1, 1, 7, due), 1, done(1, due))
		at := func(now int) api.Op {
			return api.Op{Kind: api.OFire, Id: 7, Gen: 1, Occ: due, Stamp: now}
		}
		for range 2 {
			for _, now := range []int{math.MinInt, -due, -1, 0, due / 2, due - 1} {
				checkDue(t, l, now, 9)
			}
			for _, now := range []int{due, due + 1, due + day, 1<<40 + 1, 1 << 50, math.MaxInt} {
				checkDue(t, l, now, 9, at(now))
				checkDue(t, l, due-1, 9)
			}
		}
		checkAppend(t, l, at(due), 2, done(1, due))
		checkDue(t, l, due, 9)
		checkDue(t, l, math.MaxInt, 9)
	}
}

// P9.4: by their times, of one time by their Ids; the first most of them.
func TestDueInOrder(t *testing.T) {
	l := New(8)
	for i, x := range [][2]int{{30, 5}, {20, 3}, {30, 4}, {1, 1000}, {40, 2}, {30, 0}, {20, 999}} {
		checkAppend(t, l, set(1, i, x[1], x[0]), i+1, done(i+1, x[0]))
	}
	// In their order: each one's time, Id and generation.
	order := [][3]int{{1, 1000, 4}, {20, 3, 2}, {20, 999, 7}, {30, 0, 6}, {30, 4, 3}, {30, 5, 1}, {40, 2, 5}}
	for _, now := range []int{50, 0, 19, 20, 29, 30, 39, 40, 1, 2, -1, 41, 30, math.MaxInt, 21, math.MinInt} {
		var all []api.Op
		for _, x := range order {
			if x[0] <= now {
				all = append(all, api.Op{Kind: api.OFire, Id: x[1], Gen: x[2], Occ: x[0], Stamp: now})
			}
		}
		for most := 1; most < 9; most++ {
			checkDue(t, l, now, most, all[:min(most, len(all))]...)
		}
		checkDue(t, l, now, math.MaxInt, all...)
		for _, most := range []int{0, -1, -7, math.MinInt} {
			checkDue(t, l, now, most)
		}
	}
}

// P9.4: a timer that is due at 0 isn't due at any time: one without a text, one that never comes again, and one that comes at the very first second.
func TestDueAtZeroIsNeverDue(t *testing.T) {
	for _, o := range []api.Op{set(1, 1, 7, 0), setCron(1, 1, 7, never, 0), setCron(1, 1, 7, minutely, lastMinute), setCron(1, 1, 7, minutely, -1)} {
		l := New(2)
		checkAppend(t, l, set(1, 0, 8, 5), 1, done(1, 5))
		checkAppend(t, l, o, 2, done(2, 0))
		for _, now := range append(ends(), -1, 0, 1, 4) {
			checkDue(t, l, min(now, 4), 9)
		}
		checkDue(t, l, 5, 9, fire(8, 1, 5, 5))
		checkDue(t, l, math.MaxInt, 9, fire(8, 1, 5, math.MaxInt))
		checkDue(t, l, math.MaxInt, 1, fire(8, 1, 5, math.MaxInt))
	}
}

// P9.4: what is due behind each operation: timers set, set anew (sooner, later, at 0, by another client), cancelled, and fired, also after time was asked for far ahead.
func TestDueBehindEachChange(t *testing.T) {
	for _, ahead := range []int{0, 50, 100, 1 << 41} {
		l := New(3)
		look := func(want ...api.Op) {
			t.Helper()
			l.Due(ahead, 1)
			checkDue(t, l, 100, 9, want...)
		}
		look()
		l.Append(set(1, 1, 7, 100))
		look(fire(7, 1, 100, 100))
		l.Append(set(1, 2, 7, 90))
		look(fire(7, 2, 90, 100))
		l.Append(set(2, 1, 7, 101))
		look()
		checkDue(t, l, 101, 9, fire(7, 3, 101, 101))
		l.Append(set(1, 3, 8, 95))
		l.Append(set(1, 4, 7, 95))
		look(fire(7, 5, 95, 100), fire(8, 4, 95, 100))
		l.Append(set(1, 5, 7, 0))
		look(fire(8, 4, 95, 100))
		l.Append(set(1, 6, 7, 96))
		look(fire(8, 4, 95, 100), fire(7, 7, 96, 100))
		l.Append(cancel(2, 2, 8))
		look(fire(7, 7, 96, 100))
		l.Append(cancel(2, 2, 7))
		look(fire(7, 7, 96, 100))
		l.Append(fire(7, 7, 96, 95))
		look(fire(7, 7, 96, 100))
		l.Append(setCron(2, 3, 9, minutely, 0))
		look(fire(9, 8, 60, 100), fire(7, 7, 96, 100))
		l.Append(fire(7, 7, 96, 100))
		look(fire(9, 8, 60, 100))
		l.Append(fire(9, 8, 60, 60))
		look()
		checkDue(t, l, 120, 9, fire(9, 8, 120, 120))
		l.Append(fire(9, 8, 120, 500))
		checkDue(t, l, 539, 9)
		checkDue(t, l, 540, 9, fire(9, 8, 540, 540))
		l.Append(fire(9, 8, 540, lastMinute))
		checkDue(t, l, math.MaxInt, 9)
		l.Append(setCron(2, 4, 9, "* * * * *", 40))
		look(fire(9, 9, 60, 100))
		l.Append(setCron(2, 5, 9, never, 40))
		look()
		l.Append(set(2, 6, 9, 100))
		look(fire(9, 11, 100, 100))
		l.Append(cancel(2, 7, 9))
		look()
	}
}

// P9.4: what is due, appended one behind the other, fires each; then nothing is due, till a cron timer comes again.
func TestDueFires(t *testing.T) {
	l := New(16)
	for i := range 15 {
		l.Append(set(1, i, i, 1+i%4))
	}
	l.Append(setCron(1, 15, 15, minutely, 0))
	times := 0
	for now := 1; now < 400; now += 13 {
		for list := l.Due(now, 4); len(list) > 0; list = l.Due(now, 4) {
			for _, o := range list {
				seq, r, e := l.Append(o)
				if r != done(o.Gen, o.Occ) || e != api.OK || o.Stamp != now || o.Occ > now {
					t.Fatalf("Append(%+v): %+v, %d", o, r, e)
				}
				checkFire(t, l, api.Fire{Seq: seq, Client: 1, Id: o.Id, Gen: o.Gen, Occ: o.Occ, Stamp: now})
				times++
			}
		}
	}
	if times != 15+6 {
		t.Fatalf("%d fired", times)
	}
}

// P9.4: what is due hangs on nothing that was asked before: logs that are told the same, and asked differently, answer the same.
func TestDueHangsOnNoEarlierAsking(t *testing.T) {
	asked := [][]int{nil, {0}, {1 << 40}, {-1, 50, 10, 100}, {math.MaxInt, math.MinInt}, {60, 61, 119, 120, 121}}
	var logs []*Log
	for range asked {
		logs = append(logs, New(4))
	}
	for _, o := range busyOps() {
		for i, l := range logs {
			l.Append(o)
			for _, now := range asked[i] {
				l.Due(now, 1)
				l.Due(now, 9)
				l.Due(now, -1)
			}
		}
		for _, now := range []int{-1, 0, 50, 60, 99, 100, 120, 170, 180, 7200, 21600, 366 * day, math.MaxInt, 170, 0} {
			want := logs[0].Due(now, 9)
			for _, l := range logs {
				checkDue(t, l, now, 9, want...)
			}
		}
	}
}
