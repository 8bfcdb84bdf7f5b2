package wheel

import (
	"math/rand"
	"slices"
	"testing"

	"tompion/api"
)

// plain: a wheel as the document's words tell it, without any levels.
type plain struct {
	now   int
	times map[int]int
}

// between: those whose time is above one, and at most another one.
func (p *plain) between(from, to int) pairs {
	var list pairs
	for id, at := range p.times {
		if from < at && at <= to {
			list = append(list, [2]int{at, id})
		}
	}
	inOrder(list)
	return list
}

func (p *plain) set(id, at int) api.Errno {
	if id < 0 || id > 1<<20 || at < 0 || at > last {
		return api.ErrArg
	}
	if _, there := p.times[id]; !there && len(p.times) == 1000 {
		return api.ErrFull
	}
	p.times[id] = at
	return api.OK
}

func (p *plain) advance(now int) pairs {
	before := p.now
	p.now = max(p.now, min(now, last))
	return p.between(before, p.now)
}

// checkLike: a wheel tells what a plain one does.
func checkLike(t *testing.T, w *Wheel, p *plain) {
	t.Helper()
	checkNow(t, w, p.now, len(p.times))
	all := p.between(-1, last)
	if len(all) == 0 {
		checkNext(t, w, 0, false)
	} else {
		checkNext(t, w, all[0][0], true)
	}
	for _, x := range all {
		checkAt(t, w, x[1], x[0], true)
	}
	due := p.between(-1, p.now)
	checkDue(t, w, len(due), due)
	checkDue(t, w, len(due)+1, due)
	checkDue(t, w, len(due)/2, due[:len(due)/2])
}

// someTime: a time near another one, near a slot's edge of some level, or anywhere.
func someTime(r *rand.Rand, now int) int {
	unit := 1 << r.Intn(41)
	switch r.Intn(4) {
	case 0:
		return now + r.Intn(2*unit) - unit/4
	case 1:
		return (now/unit+r.Intn(3))*unit + r.Intn(3) - 1
	case 2:
		return now + r.Intn(5) - 1
	default:
		return r.Intn(last + 1)
	}
}

// P6.1 to P6.4: rows of calls, held against a plain wheel.
func TestRowsOfCalls(t *testing.T) {
	for seed := range 300 {
		r := rand.New(rand.NewSource(int64(seed)))
		begin := someTime(r, r.Intn(last))
		ids := 1 + r.Intn(60)
		w, p := New(begin), &plain{min(max(begin, 0), last), map[int]int{}}
		for range 300 {
			id, at := r.Intn(ids), someTime(r, p.now)
			switch r.Intn(8) {
			case 0, 1, 2, 3:
				checkSet(t, w, id, at, p.set(id, at))
			case 4:
				_, there := p.times[id]
				delete(p.times, id)
				checkRemove(t, w, id, there)
			default:
				if r.Intn(8) > 0 {
					at = min(at, p.now+1<<r.Intn(32))
				}
				checkAdvance(t, w, at, p.advance(at))
			}
			checkLike(t, w, p)
			if t.Failed() {
				t.Fatalf("seed %d", seed)
			}
		}
	}
}

// P6.1, P6.4: as many as there may be, all over the levels, held against a plain wheel.
func TestManyOverAllLevels(t *testing.T) {
	r := rand.New(rand.NewSource(6))
	w, p := New(0), &plain{0, map[int]int{}}
	for range 1100 {
		id, at := r.Intn(1<<20+1), r.Intn(1<<r.Intn(41))
		if e := p.set(id, at); w.Set(id, at) != e {
			t.Fatal(id, at, e)
		}
	}
	checkWhole(t, w)
	checkLike(t, w, p)
	for now := 1; now <= last; now = now*3/2 + 1 {
		checkAdvance(t, w, now, p.advance(now))
		checkLike(t, w, p)
	}
	checkAdvance(t, w, last, p.advance(last))
	checkLike(t, w, p)
}

// edges: times on both sides of where each level's slots, and each level, begin and end behind now.
func edges(now int) []int {
	var list []int
	for i := 0; i <= 40; i++ {
		for _, near := range []int{now + 1<<i, (now>>i + 1) << i, (now>>i + 2) << i, 1 << i, 63 << i} {
			list = append(list, near-1, near, near+1)
		}
	}
	list = slices.DeleteFunc(list, func(at int) bool { return at <= now || at > last })
	slices.Sort(list)
	return slices.Compact(list)
}

// beginnings: times of a wheel at which levels come round, and others.
func beginnings() []int {
	return []int{0, 1, 62, 63, 64, 65, 4031, 4032, 4095, 4096, 1<<18 - 1, 1 << 18, 1<<24 - 1, 1 << 30, 1<<30 - 64, round - 1, round, round + 1, 123456789012, 7*round - 1, last - round - 1, last - 64, last - 1}
}

// P6.4: each comes due at its time, once, and not a second ahead: one alone, at the edges of all levels.
func TestOneAtEachEdge(t *testing.T) {
	for _, now := range beginnings() {
		for _, at := range edges(now) {
			w := set(t, now, [2]int{at, 1})
			checkAdvance(t, w, at-1, nil)
			checkDue(t, w, 9, nil)
			checkNext(t, w, at, true)
			checkAdvance(t, w, at, pairs{{at, 1}})
			checkAdvance(t, w, at+1, nil)
			checkAdvance(t, w, last, nil)
			checkDue(t, w, 9, pairs{{at, 1}})
		}
	}
}

// P6.4: in one step, in steps to each edge, and in two steps by way of each edge, the same come due, in the same order.
func TestStepsOfAnyKind(t *testing.T) {
	for _, now := range beginnings() {
		times := edges(now)
		var all pairs
		for i, at := range times {
			all = append(all, [2]int{at, 999 - i})
		}
		checkAdvance(t, set(t, now, all...), last, all)
		w := set(t, now, all...)
		for i, at := range times {
			checkAdvance(t, w, at, all[i:i+1])
			checkDue(t, w, 1000, all[:i+1])
		}
		for i, at := range times {
			w := New(now)
			for _, x := range all {
				w.Set(x[1], x[0])
			}
			checkAdvance(t, w, at, all[:i+1])
			checkAdvance(t, w, last, all[i+1:])
		}
	}
}

// P6.4: time that goes on by ones, where levels come round, lets each come due at its second.
func TestByOnes(t *testing.T) {
	for _, edge := range []int{64, 128, 4096, 8192, 1 << 18, 1 << 24, 1 << 30, 1<<30 + 1<<18, round, 2 * round, 5*round + 4096, last - 200} {
		w := New(max(edge-200, 0))
		begin := w.Now()
		for i := range 400 {
			checkSet(t, w, i*7%400, begin+i, api.OK)
		}
		checkDue(t, w, 9, pairs{{begin, 0}})
		for i := 1; i < 400; i++ {
			checkAdvance(t, w, begin+i, pairs{{begin + i, i * 7 % 400}})
		}
		checkAdvance(t, w, begin+400, nil)
	}
}

// P6.4: a set far ahead of time, while time goes on, is kept right in each level that it goes through.
func TestDownAllLevels(t *testing.T) {
	const at = 3*round + 41<<30 + 42<<24 + 43<<18 + 44<<12 + 45<<6 + 46
	w := set(t, 0, [2]int{at, 1}, [2]int{at, 3}, [2]int{at + 1, 2})
	for i := 39; i >= 0; i-- {
		now := at>>i<<i - 1
		checkAdvance(t, w, now, nil)
		if now = at >> i << i; now < at {
			checkAdvance(t, w, now, nil)
		}
		checkNext(t, w, at, true)
	}
	if now := w.Now(); now != at-1 {
		t.Error(now)
	}
	checkAdvance(t, w, at, pairs{{at, 1}, {at, 3}})
	checkAdvance(t, w, at+1, pairs{{at + 1, 2}})
}

// P6.4: a cancel and a new time in any level, while time goes on, leave nothing behind that would come due.
func TestSetAnewOnTheWay(t *testing.T) {
	for _, now := range []int{0, 100, 4000, 1<<18 - 3, round - 5} {
		for _, at := range edges(now) {
			for _, other := range []int{now, now + 1, now + 63, now + 4096, now + 1<<30, now + 2*round} {
				w := set(t, now, [2]int{at, 1}, [2]int{at, 2})
				w.Advance(now + (at-now)/2)
				checkSet(t, w, 1, other, api.OK)
				checkRemove(t, w, 2, true)
				want := pairs{{other, 1}}
				if other <= w.Now() {
					want = nil
				}
				checkAdvance(t, w, last, want)
				checkDue(t, w, 9, pairs{{other, 1}})
				checkNow(t, w, last, 1)
			}
		}
	}
}
