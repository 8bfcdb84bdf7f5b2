package wheel

import (
	"math"
	"slices"
	"testing"

	"tompion/api"
)

const (
	last  = 1 << 40 // the last time of all
	round = 1 << 36 // how many seconds the levels tell
)

// pairs: rows of (time, id).
type pairs = [][2]int

// inOrder: pairs by their times, of one time by their ids.
func inOrder(list pairs) {
	slices.SortFunc(list, func(a, b [2]int) int { return slices.Compare(a[:], b[:]) })
}

func checkSet(t *testing.T, w *Wheel, id, at int, e api.Errno) {
	t.Helper()
	if got := w.Set(id, at); got != e {
		t.Errorf("Set(%d, %d): %d, want %d", id, at, got, e)
	}
	checkWhole(t, w)
}

func checkRemove(t *testing.T, w *Wheel, id int, ok bool) {
	t.Helper()
	if got := w.Remove(id); got != ok {
		t.Errorf("Remove(%d): %t, want %t", id, got, ok)
	}
	checkWhole(t, w)
}

func checkAt(t *testing.T, w *Wheel, id, at int, ok bool) {
	t.Helper()
	if got, there := w.At(id); got != at || there != ok {
		t.Errorf("At(%d): %d, %t, want %d, %t", id, got, there, at, ok)
	}
}

func checkDue(t *testing.T, w *Wheel, most int, want pairs) {
	t.Helper()
	if got := w.Due(most); !slices.Equal(got, want) {
		t.Errorf("Due(%d) at %d: %v, want %v", most, w.Now(), got, want)
	}
}

func checkAdvance(t *testing.T, w *Wheel, now int, want pairs) {
	t.Helper()
	before := w.Now()
	if got := w.Advance(now); !slices.Equal(got, want) {
		t.Errorf("Advance(%d) from %d: %v, want %v", now, before, got, want)
	}
	checkWhole(t, w)
}

func checkNext(t *testing.T, w *Wheel, at int, ok bool) {
	t.Helper()
	if got, there := w.Next(); got != at || there != ok {
		t.Errorf("Next at %d: %d, %t, want %d, %t", w.Now(), got, there, at, ok)
	}
}

func checkNow(t *testing.T, w *Wheel, now, n int) {
	t.Helper()
	if w.Now() != now || w.Len() != n {
		t.Errorf("Now %d, Len %d, want %d, %d", w.Now(), w.Len(), now, n)
	}
}

// checkWhole: whoever is there is in one list, the right one, and each level's bits tell which slots aren't empty.
func checkWhole(t *testing.T, w *Wheel) {
	t.Helper()
	if w == nil {
		return
	}
	n := len(w.due) + len(w.beyond)
	for _, x := range w.due {
		checkKept(t, w, x, x[0] <= w.now)
	}
	for _, x := range w.beyond {
		checkKept(t, w, x, x[0]/round > w.now/round)
	}
	for i := range w.levels {
		unit := 1 << (6 * i)
		for s, list := range w.levels[i].slots {
			n += len(list)
			if full := w.levels[i].full>>s&1 == 1; full != (len(list) > 0) {
				t.Errorf("level %d, slot %d: bit %t of %d", i, s, full, len(list))
			}
			for _, x := range list {
				same := x[0]/unit/64 == w.now/unit/64
				checkKept(t, w, x, same && x[0]/unit > w.now/unit && x[0]/unit%64 == s)
			}
		}
	}
	if n != w.Len() {
		t.Errorf("%d are kept of %d", n, w.Len())
	}
}

func checkKept(t *testing.T, w *Wheel, x [2]int, right bool) {
	t.Helper()
	if at, ok := w.At(x[1]); at != x[0] || !ok || !right {
		t.Errorf("at %d: %v is kept where it isn't to be (its time: %d, %t)", w.now, x, at, ok)
	}
}

// set: a wheel at a time, with pairs.
func set(t *testing.T, now int, list ...[2]int) *Wheel {
	t.Helper()
	w := New(now)
	for _, x := range list {
		checkSet(t, w, x[1], x[0], api.OK)
	}
	return w
}

// P6.1: a new wheel has nobody; its time is at least 0, and at most 2^40.
func TestNew(t *testing.T) {
	for _, x := range [][2]int{{0, 0}, {1, 1}, {63, 63}, {64, 64}, {round, round}, {last - 1, last - 1}, {last, last}, {last + 1, last}, {math.MaxInt, last}, {-1, 0}, {-last, 0}, {math.MinInt, 0}} {
		w := New(x[0])
		checkNow(t, w, x[1], 0)
		checkNext(t, w, 0, false)
		checkAt(t, w, 0, 0, false)
		checkDue(t, w, 9, nil)
		checkAdvance(t, w, x[1], nil)
		checkAdvance(t, w, last, nil)
		checkNow(t, w, last, 0)
	}
	if New(5) == New(5) {
		t.Error("two are one")
	}
}

// P6.1, P6.2, P6.3: the document's example.
func TestExample(t *testing.T) {
	w := set(t, 0, [2]int{70, 1}, [2]int{5, 2}, [2]int{70, 3})
	checkNext(t, w, 5, true)
	checkAdvance(t, w, 6, pairs{{5, 2}})
	checkAdvance(t, w, 5000, pairs{{70, 1}, {70, 3}})
	checkDue(t, w, 9, pairs{{5, 2}, {70, 1}, {70, 3}})
	checkNow(t, w, 5000, 3)
}

// P6.1: ids are 0 to 2^20, and times 0 to 2^40; whatever else is refused changes nothing.
func TestSetArguments(t *testing.T) {
	ids := []int{0, 1, 1 << 10, 1<<20 - 1, 1 << 20}
	times := []int{0, 1, 5, 6, round, last - 1, last}
	wrongIds := []int{-1, math.MinInt, 1<<20 + 1, 1 << 40, math.MaxInt, -1 << 20}
	wrongTimes := []int{-1, math.MinInt, last + 1, 1 << 41, math.MaxInt, -last}
	for _, id := range ids {
		for _, at := range times {
			w := set(t, 5, [2]int{at, id})
			checkAt(t, w, id, at, true)
			checkNext(t, w, at, true)
			for _, wrong := range wrongTimes {
				checkSet(t, w, id, wrong, api.ErrArg)
				checkSet(t, w, 7, wrong, api.ErrArg)
			}
			for _, wrong := range wrongIds {
				checkSet(t, w, wrong, at, api.ErrArg)
				checkSet(t, w, wrong, wrong, api.ErrArg)
				checkRemove(t, w, wrong, false)
				checkAt(t, w, wrong, 0, false)
			}
			checkAt(t, w, id, at, true)
			checkAt(t, w, 7, 0, false)
			checkNow(t, w, 5, 1)
		}
	}
}

// P6.1, P6.2: of a time that is the wheel's, or ahead of it, one is due at once, and doesn't come due; else it isn't due yet.
func TestSetAroundNow(t *testing.T) {
	for _, now := range []int{0, 1, 63, 64, 100, 4095, 4096, round - 1, round, last - 1, last} {
		w := New(now)
		var due, later pairs
		for id, at := range []int{0, now - 65, now - 64, now - 1, now, now + 1, now + 63, now + 64, last} {
			if at < 0 || at > last {
				checkSet(t, w, id, at, api.ErrArg)
				continue
			}
			checkSet(t, w, id, at, api.OK)
			if at <= now {
				due = append(due, [2]int{at, id})
			} else {
				later = append(later, [2]int{at, id})
			}
			checkAt(t, w, id, at, true)
		}
		inOrder(due)
		inOrder(later)
		checkDue(t, w, 99, due)
		checkNext(t, w, 0, true)
		checkAdvance(t, w, last, later)
		checkDue(t, w, 99, slices.Concat(due, later))
	}
}

// filled: a thousand, some of which are due.
func filled(t *testing.T) *Wheel {
	t.Helper()
	w := New(50)
	for i := range 1000 {
		if e := w.Set(2*i, i*i*i); e != api.OK {
			t.Fatal(i, e)
		}
	}
	checkWhole(t, w)
	return w
}

// P6.1: there is room for a thousand; one that is there may be set anew.
func TestFull(t *testing.T) {
	w := filled(t)
	checkNow(t, w, 50, 1000)
	for _, id := range []int{1, 3, 1999, 2000, 1 << 20} {
		for _, at := range []int{0, 50, 51, last} {
			checkSet(t, w, id, at, api.ErrFull)
			checkAt(t, w, id, 0, false)
		}
	}
	checkSet(t, w, 1, last+1, api.ErrArg)
	checkSet(t, w, 1, -1, api.ErrArg)
	checkSet(t, w, -1, 0, api.ErrArg)
	checkSet(t, w, 1<<20+1, 0, api.ErrArg)
	checkNow(t, w, 50, 1000)
	for _, id := range []int{0, 2, 6, 8, 1000, 1998} {
		for _, at := range []int{60, last, 0, 50, 49, round} {
			checkSet(t, w, id, at, api.OK)
			checkAt(t, w, id, at, true)
			checkNow(t, w, 50, 1000)
		}
	}
	checkSet(t, w, 1, 51, api.ErrFull)
	checkRemove(t, w, 1, false)
	checkSet(t, w, 1, 51, api.ErrFull)
	checkRemove(t, w, 0, true)
	checkSet(t, w, 1, 51, api.OK)
	checkSet(t, w, 0, 51, api.ErrFull)
	checkNow(t, w, 50, 1000)
	checkAdvance(t, w, last, pairsOf(w, 51, last))
	checkSet(t, w, 0, 51, api.ErrFull)
}

// pairsOf: all that are due between two times, both with them.
func pairsOf(w *Wheel, from, to int) pairs {
	var list pairs
	for id := range 1<<20 + 1 {
		if at, ok := w.At(id); ok && from <= at && at <= to {
			list = append(list, [2]int{at, id})
		}
	}
	inOrder(list)
	return list
}

// P6.1, P6.4: one that is set anew is due at its new time alone, whichever of both is the earlier one, and comes due again if it was due.
func TestSetAnew(t *testing.T) {
	const now = 1000
	times := []int{0, 999, 1000, 1001, 1023, 1024, 1087, 1088, 4095, 4096, 4097, 1 << 18, 1 << 24, 1 << 30, round - 1, round, round + 1, 3*round + 5, last - 1, last}
	for _, old := range times {
		for _, at := range times {
			w := set(t, now, [2]int{old, 7}, [2]int{old, 6}, [2]int{1000, 8})
			checkSet(t, w, 7, at, api.OK)
			checkAt(t, w, 7, at, true)
			checkAt(t, w, 6, old, true)
			checkNow(t, w, now, 3)
			checkNext(t, w, min(old, at, 1000), true)
			due := threePairs(now, old, at)
			var early, late pairs
			for _, x := range due {
				if x[0] <= now {
					early = append(early, x)
				} else {
					late = append(late, x)
				}
			}
			checkDue(t, w, 9, early)
			checkAdvance(t, w, last, late)
			checkDue(t, w, 9, due)
			checkSet(t, w, 7, at, api.OK)
			checkDue(t, w, 9, due)
			checkAdvance(t, w, last, nil)
		}
	}
}

// threePairs: what TestSetAnew's wheel has.
func threePairs(now, old, at int) pairs {
	list := pairs{{at, 7}, {old, 6}, {now, 8}}
	inOrder(list)
	return list
}

// P6.2, P6.4: one that came due, and is set to a later time, is due no more, and comes due once again.
func TestComesDueAgain(t *testing.T) {
	w := set(t, 0, [2]int{10, 1}, [2]int{10, 2})
	checkAdvance(t, w, 10, pairs{{10, 1}, {10, 2}})
	checkAdvance(t, w, 20, nil)
	checkSet(t, w, 1, 25, api.OK)
	checkDue(t, w, 9, pairs{{10, 2}})
	checkAdvance(t, w, 24, nil)
	checkAdvance(t, w, 25, pairs{{25, 1}})
	checkAdvance(t, w, 26, nil)
	checkSet(t, w, 1, 3, api.OK)
	checkDue(t, w, 9, pairs{{3, 1}, {10, 2}})
	checkAdvance(t, w, 200, nil)
	checkSet(t, w, 2, 199, api.OK)
	checkDue(t, w, 9, pairs{{3, 1}, {199, 2}})
	checkAdvance(t, w, last, nil)
}

// P6.1, P6.4: one that is removed is there no more, and doesn't come due; it may be set again.
func TestRemove(t *testing.T) {
	for _, at := range []int{0, 99, 100, 101, 127, 128, 4095, 4096, 1 << 20, 1 << 29, 1 << 35, round, 5*round + 1, last} {
		w := set(t, 100, [2]int{at, 4}, [2]int{at, 5}, [2]int{at, 3})
		rest := pairs{{at, 3}, {at, 5}}
		checkRemove(t, w, 6, false)
		checkRemove(t, w, 4, true)
		checkRemove(t, w, 4, false)
		checkAt(t, w, 4, 0, false)
		checkAt(t, w, 5, at, true)
		checkNow(t, w, 100, 2)
		checkNext(t, w, at, true)
		if at > 100 {
			checkDue(t, w, 9, nil)
			checkAdvance(t, w, at, rest)
		}
		checkDue(t, w, 9, rest)
		checkSet(t, w, 4, at, api.OK)
		checkDue(t, w, 9, pairs{{at, 3}, {at, 4}, {at, 5}})
		checkAdvance(t, w, last, nil)
		for _, id := range []int{5, 3, 4} {
			checkNext(t, w, at, true)
			checkRemove(t, w, id, true)
			checkRemove(t, w, id, false)
		}
		checkNow(t, w, last, 0)
		checkNext(t, w, 0, false)
		checkDue(t, w, 9, nil)
	}
}

// P6.1, P6.4: one that is removed ahead of its time, and set again, comes due at the new time.
func TestRemovedAndSetAgain(t *testing.T) {
	w := set(t, 0, [2]int{70, 1}, [2]int{70, 2})
	checkRemove(t, w, 1, true)
	checkRemove(t, w, 2, true)
	checkNext(t, w, 0, false)
	checkSet(t, w, 1, 90, api.OK)
	checkNext(t, w, 90, true)
	checkAdvance(t, w, 89, nil)
	checkAdvance(t, w, 90, pairs{{90, 1}})
	checkAdvance(t, w, last, nil)
}

// P6.2: of one time they come by their ids, in whatever order they were set.
func TestSeveralAtOneTime(t *testing.T) {
	ids := []int{0, 1, 9, 10, 64, 1000, 1 << 20}
	var orders [][]int
	orders = append(orders, ids, []int{1 << 20, 1000, 64, 10, 9, 1, 0}, []int{64, 0, 1 << 20, 9, 1, 1000, 10})
	for _, at := range []int{3, 5, 6, 63, 64, 4096, 1 << 33, round, round + 70, last} {
		for _, order := range orders {
			w := New(5)
			var want pairs
			for i := range ids {
				checkSet(t, w, order[i], at, api.OK)
				want = append(want, [2]int{at, ids[i]})
			}
			if at > 5 {
				checkDue(t, w, 99, nil)
				checkAdvance(t, w, at-1, nil)
				checkAdvance(t, w, at, want)
			}
			checkAdvance(t, w, last, nil)
			checkDue(t, w, 99, want)
		}
	}
}

// P6.2: times come before ids, both among those that come due and among all that are.
func TestTimesAheadOfIds(t *testing.T) {
	w := set(t, 10, [2]int{20, 1}, [2]int{19, 2}, [2]int{5, 8}, [2]int{4, 9}, [2]int{19, 0}, [2]int{5, 7})
	checkAdvance(t, w, 30, pairs{{19, 0}, {19, 2}, {20, 1}})
	checkDue(t, w, 99, pairs{{4, 9}, {5, 7}, {5, 8}, {19, 0}, {19, 2}, {20, 1}})
}

// P6.2: time doesn't go back, nor beyond 2^40, and nobody comes due when it stands.
func TestAdvanceClock(t *testing.T) {
	w := set(t, 100, [2]int{100, 1}, [2]int{101, 2}, [2]int{50, 3}, [2]int{last, 4})
	for _, now := range []int{100, 99, 50, 0, -1, math.MinInt} {
		checkAdvance(t, w, now, nil)
		checkNow(t, w, 100, 4)
		checkDue(t, w, 9, pairs{{50, 3}, {100, 1}})
	}
	checkAdvance(t, w, 101, pairs{{101, 2}})
	checkNow(t, w, 101, 4)
	checkAdvance(t, w, last-1, nil)
	checkNow(t, w, last-1, 4)
	for _, now := range []int{last, last + 1, math.MaxInt, -1} {
		v := set(t, 100, [2]int{last, 4}, [2]int{last - 1, 5})
		v.Advance(last - 1)
		if now > 0 {
			checkAdvance(t, v, now, pairs{{last, 4}})
			checkNow(t, v, last, 2)
		}
		checkAdvance(t, v, last-1, nil)
		checkAdvance(t, v, now, nil)
	}
	checkAdvance(t, w, math.MaxInt, pairs{{last, 4}})
	checkNow(t, w, last, 4)
	checkAdvance(t, w, math.MaxInt, nil)
	checkSet(t, w, 5, last, api.OK)
	checkAdvance(t, w, math.MaxInt, nil)
	checkDue(t, w, 9, pairs{{50, 3}, {100, 1}, {101, 2}, {last, 4}, {last, 5}})
}

// P6.2: Due tells the first of them, as many as are asked for, and they stay.
func TestDueMost(t *testing.T) {
	all := pairs{{1, 5}, {2, 4}, {2, 6}, {9, 1}, {10, 0}}
	w := set(t, 9, all[4], all[2], all[0], all[3], all[1], [2]int{11, 2})
	w.Advance(10)
	for range 2 {
		for most := 1; most <= 5; most++ {
			checkDue(t, w, most, all[:most])
		}
		for _, most := range []int{6, 7, 1000, 1 << 40, math.MaxInt} {
			checkDue(t, w, most, all)
		}
		for _, most := range []int{0, -1, -5, math.MinInt} {
			checkDue(t, w, most, nil)
		}
		checkNow(t, w, 10, 6)
	}
	full := filled(t)
	full.Advance(last)
	want := pairsOf(full, 0, last)
	checkDue(t, full, 1000, want)
	checkDue(t, full, 999, want[:999])
	checkDue(t, full, 1001, want)
}

// P6.3: Next tells the least time, of one that is due, in any level, or beyond.
func TestNext(t *testing.T) {
	w := New(1000)
	checkNext(t, w, 0, false)
	times := []int{last, last - 1, 5 * round, round + 1, round, 1<<30 + 1, 1 << 30, 1 << 20, 1 << 15, 4096, 4095, 1025, 1024, 1001, 1000, 999, 1, 0}
	for id, at := range times {
		checkSet(t, w, id, at, api.OK)
		checkNext(t, w, at, true)
	}
	checkAdvance(t, w, 1000, nil)
	for id := len(times) - 1; id >= 0; id-- {
		checkNext(t, w, times[id], true)
		checkRemove(t, w, id, true)
	}
	checkNext(t, w, 0, false)
	for _, list := range []pairs{{{1 << 30, 1}, {1<<30 + 9, 2}}, {{1<<30 + 9, 1}, {1 << 30, 2}}, {{2 * round, 1}, {round, 2}}, {{round + 8, 2}, {round + 9, 1}}} {
		v := set(t, 0, list...)
		at := min(list[0][0], list[1][0])
		checkNext(t, v, at, true)
		v.Advance(at - 1)
		checkNext(t, v, at, true)
		v.Advance(last)
		checkNext(t, v, at, true)
	}
}

// P6.3: a nil *Wheel does nothing.
func TestNilWheel(t *testing.T) {
	var w *Wheel
	for _, x := range []int{0, 1, -1, last, math.MinInt, math.MaxInt} {
		checkSet(t, w, x, x, api.ErrNil)
		checkSet(t, w, 1, x, api.ErrNil)
		checkRemove(t, w, x, false)
		checkAt(t, w, x, 0, false)
		if l := w.Due(x); l != nil {
			t.Error(l)
		}
		if l := w.Advance(x); l != nil {
			t.Error(l)
		}
	}
	checkNow(t, w, 0, 0)
	checkNext(t, w, 0, false)
}

// P6.1 to P6.3: a Wheel that New didn't make is as one of New(0).
func TestWheelNotOfNew(t *testing.T) {
	for i := range 4 {
		var w Wheel
		switch i {
		case 0:
			checkNow(t, &w, 0, 0)
			checkNext(t, &w, 0, false)
			checkDue(t, &w, 9, nil)
			checkAt(t, &w, 0, 0, false)
		case 1:
			checkRemove(t, &w, 0, false)
		case 2:
			checkAdvance(t, &w, 0, nil)
			checkDue(t, &w, 0, nil)
		}
		checkSet(t, &w, -1, 0, api.ErrArg)
		checkSet(t, &w, 1, 0, api.OK)
		checkSet(t, &w, 2, 70, api.OK)
		checkSet(t, &w, 3, last, api.OK)
		checkDue(t, &w, 9, pairs{{0, 1}})
		checkAdvance(t, &w, 70, pairs{{70, 2}})
		checkAdvance(t, &w, last, pairs{{last, 3}})
		checkRemove(t, &w, 2, true)
		checkDue(t, &w, 9, pairs{{0, 1}, {last, 3}})
		checkNow(t, &w, last, 2)
	}
}

// scrawl: a list is filled with other numbers, its spare room too.
func scrawl(list pairs) {
	list = list[:cap(list)]
	for i := range list {
		list[i] = [2]int{-7, -7}
	}
}

// P6.2: what is answered is new memory: who writes in it changes nothing, neither of the wheel nor of another answer.
func TestNewMemory(t *testing.T) {
	w := set(t, 10, [2]int{5, 1}, [2]int{5, 2}, [2]int{7, 3}, [2]int{20, 4}, [2]int{20, 5}, [2]int{90, 6}, [2]int{round, 7})
	all := pairs{{5, 1}, {5, 2}, {7, 3}, {20, 4}, {20, 5}, {90, 6}, {round, 7}}
	scrawl(w.Due(2))
	checkDue(t, w, 9, all[:3])
	scrawl(w.Due(9))
	one, two := w.Due(9), w.Due(9)
	scrawl(one)
	if !slices.Equal(two, all[:3]) {
		t.Error(two)
	}
	came := w.Advance(30)
	two = w.Due(9)
	scrawl(two)
	if !slices.Equal(came, all[3:5]) {
		t.Error(came)
	}
	scrawl(came)
	checkWhole(t, w)
	checkDue(t, w, 9, all[:5])
	kept := w.Due(9)
	checkAdvance(t, w, last, all[5:])
	checkRemove(t, w, 1, true)
	checkSet(t, w, 2, last, api.OK)
	if !slices.Equal(kept, all[:5]) {
		t.Error(kept)
	}
	for _, id := range []int{1, 2, 3, 4, 5, 6, 7} {
		w.Remove(id)
	}
	scrawl(w.Due(9))
	scrawl(w.Advance(last))
	checkSet(t, w, 1, 0, api.OK)
	checkDue(t, w, 9, pairs{{0, 1}})
}
