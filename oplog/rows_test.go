package oplog

import (
	"math"
	"math/rand"
	"slices"
	"testing"

	"tompion/api"
	"tompion/state"
)

// plainLog: a log that keeps a whole service behind each operation, and looks for all else from the front.
type plainLog struct {
	ops     []api.Op
	replies []api.Reply
	behind  []*state.State // behind 0 operations, behind 1, and so on
}

func newPlain(timers int) *plainLog {
	return &plainLog{behind: []*state.State{state.New(timers)}}
}

func (p *plainLog) append(o api.Op) (int, api.Reply, api.Errno) {
	if len(p.ops) == 2000 {
		return 0, api.Reply{}, api.ErrFull
	}
	if len(o.Cron) > 256 {
		return 0, api.Reply{}, api.ErrLong
	}
	s := p.behind[len(p.ops)].Copy()
	p.replies = append(p.replies, s.Apply(o))
	p.ops, p.behind = append(p.ops, o), append(p.behind, s)
	return len(p.ops), p.replies[len(p.ops)-1], api.OK
}

// did: whether the operation of a number did something, by what was known ahead of it.
func (p *plainLog) did(seq int) bool {
	o, ahead := p.ops[seq-1], p.behind[seq-1]
	if o.Kind == 3 {
		return ahead.Fires(o)
	}
	req, _, known := ahead.Last(o.Client)
	return p.replies[seq-1].Err == api.OK && !(known && req == o.Req)
}

func (p *plainLog) request(client, req int) (int, bool) {
	for i, o := range p.ops {
		if (o.Kind == 1 || o.Kind == 2) && o.Client == client && o.Req == req {
			return i + 1, true
		}
	}
	return 0, false
}

func (p *plainLog) read(id, upto int) api.Reply {
	timer, e := p.behind[min(max(upto, 0), len(p.ops))].Get(id)
	return api.Reply{Err: e, Gen: timer.Gen, Due: timer.Due}
}

func (p *plainLog) newest(id int) int {
	for seq := len(p.ops); seq > 0; seq-- {
		if p.ops[seq-1].Id == id && p.did(seq) {
			return seq
		}
	}
	return 0
}

func (p *plainLog) fire(seq int) (api.Fire, bool) {
	if seq < 1 || seq > len(p.ops) || p.ops[seq-1].Kind != 3 || !p.did(seq) {
		return api.Fire{}, false
	}
	o := p.ops[seq-1]
	timer, _ := p.behind[seq-1].Get(o.Id)
	return api.Fire{Seq: seq, Client: timer.Client, Id: o.Id, Gen: o.Gen, Occ: o.Occ, Stamp: o.Stamp}, true
}

func (p *plainLog) fires(client, from, upto, most int) ([]api.Fire, int) {
	var list []api.Fire
	for seq := 1; seq <= len(p.ops); seq++ {
		f, ok := p.fire(seq)
		if !ok || f.Client != client || seq <= from || seq > upto || len(list) >= most {
			continue
		}
		list = append(list, f)
		if len(list) == most {
			return list, seq
		}
	}
	return list, max(from, min(upto, len(p.ops)))
}

func (p *plainLog) due(now, most int) []api.Op {
	var list []api.Op
	for _, x := range p.behind[len(p.ops)].List() {
		if x.Due > 0 && x.Due <= now {
			list = append(list, api.Op{Kind: 3, Id: x.Id, Gen: x.Gen, Occ: x.Due, Stamp: now})
		}
	}
	// The list is by the Ids, so those of one time stay so.
	slices.SortStableFunc(list, func(a, b api.Op) int { return a.Occ - b.Occ })
	return list[:min(max(most, 0), len(list))]
}

func (p *plainLog) from(seq, most int) []api.Op {
	var list []api.Op
	for i, o := range p.ops {
		if i+1 >= seq && len(list) < most {
			list = append(list, o)
		}
	}
	return list
}

// checkBoth: an operation is answered as a plain log answers it.
func checkBoth(t *testing.T, l *Log, p *plainLog, o api.Op) {
	t.Helper()
	seq, r, e := p.append(o)
	if gotSeq, got, err := l.Append(o); gotSeq != seq || got != r || err != e {
		t.Fatalf("Append(%+v): %d, %+v, %d, want %d, %+v, %d", o, gotSeq, got, err, seq, r, e)
	}
}

// someNumber: mostly one from a little below 0 to a little above another one.
func someNumber(r *rand.Rand, most int) int {
	if r.Intn(30) == 0 {
		return ends()[r.Intn(len(ends()))]
	}
	return r.Intn(most+6) - 3
}

// checkSome: answers of some arguments.
func checkSome(t *testing.T, r *rand.Rand, l *Log, p *plainLog, now int) {
	t.Helper()
	n := len(p.ops)
	checkLen(t, l, n)
	for range 3 {
		id := someNumber(r, 12)
		upto := someNumber(r, n)
		checkRead(t, l, id, upto, p.read(id, upto))
		checkNewest(t, l, id, p.newest(id))
		seq, most := someNumber(r, n), someNumber(r, 9)
		checkFrom(t, l, seq, most, p.from(seq, most))
		want, ok := p.fire(seq)
		if got, there := l.Fire(seq); got != want || there != ok {
			t.Fatalf("Fire(%d): %+v, %v, want %+v, %v", seq, got, there, want, ok)
		}
		ask := [4]int{r.Intn(5), someNumber(r, n), someNumber(r, n), someNumber(r, 4)}
		list, next := p.fires(ask[0], ask[1], ask[2], ask[3])
		checkFires(t, l, ask, next, list...)
		client, req := r.Intn(5), someNumber(r, 30)
		place, known := p.request(client, req)
		if got, ok := l.Request(client, req); got != place || ok != known {
			t.Fatalf("Request(%d, %d): %d, %v, want %d, %v", client, req, got, ok, place, known)
		}
		at := now + []int{0, 0, -1, -60, 1, 100, -1 << 42, 1 << 42}[r.Intn(8)]
		checkDue(t, l, at, most, p.due(at, most)...)
	}
}

// checkAll: all that a log tells of each number, and of each timer behind each number.
func checkAll(t *testing.T, l *Log, p *plainLog) {
	t.Helper()
	n := len(p.ops)
	checkFrom(t, l, 1, n, p.ops)
	for seq := 1; seq <= n; seq++ {
		if got, e := l.Reply(seq); got != p.replies[seq-1] || e != api.OK {
			t.Fatalf("Reply(%d): %+v, %d, want %+v", seq, got, e, p.replies[seq-1])
		}
		want, ok := p.fire(seq)
		if got, there := l.Fire(seq); got != want || there != ok {
			t.Fatalf("Fire(%d): %+v, %v, want %+v, %v", seq, got, there, want, ok)
		}
		for id := range 12 {
			checkRead(t, l, id, seq, p.read(id, seq))
		}
	}
	for client := range 5 {
		list, next := p.fires(client, 0, n, n+1)
		checkFires(t, l, [4]int{client, 0, n, n + 1}, next, list...)
	}
	checkTimers(t, l, p.behind[n].List()...)
}

// anyOp: mostly one that does something, or that misses it by a little.
func anyOp(r *rand.Rand, p *plainLog, now int) api.Op {
	s := p.behind[len(p.ops)]
	o := api.Op{Kind: 1 + r.Intn(2), Client: r.Intn(3), Req: 1, Id: r.Intn(10), Stamp: now, Epoch: r.Intn(3)}
	if r.Intn(40) == 0 {
		o.Client = 3 + r.Intn(2)
	}
	if req, _, known := s.Last(o.Client); known {
		o.Req = req - 1 + min(r.Intn(6), 2)
	}
	if o.Kind == 1 {
		switch r.Intn(6) {
		case 0:
			o.Cron = []string{"x", never, "0 * * * *"}[r.Intn(3)]
		case 1:
			o.Cron = []string{minutely, "*/5 * * * *"}[r.Intn(2)]
		case 2:
			o.Due = []int{-1, 0, 1 << 40, 1<<40 + 1, now}[r.Intn(5)]
		default:
			o.Due = now + r.Intn(10)*30
		}
	}
	if list := s.List(); len(list) > 0 && r.Intn(2) == 0 {
		x := list[r.Intn(len(list))]
		o.Kind, o.Id, o.Gen, o.Occ = 3, x.Id, x.Gen, x.Due
		o.Stamp = max(now, x.Due) - r.Intn(2)*r.Intn(2)
		// A time that is far ahead is seldom fired at.
		if x.Due > 1<<39 && r.Intn(8) > 0 {
			o.Gen--
		}
	}
	if r.Intn(12) == 0 {
		spoil(r, &o)
	}
	return o
}

func spoil(r *rand.Rand, o *api.Op) {
	fields := []*int{&o.Kind, &o.Client, &o.Req, &o.Id, &o.Gen, &o.Occ, &o.Due, &o.Stamp}
	field := fields[r.Intn(len(fields))]
	switch r.Intn(8) {
	case 0:
		*field = math.MaxInt
	case 1:
		*field = math.MinInt
	case 2, 3, 4:
		*field++
	default:
		*field--
	}
}

// P9.1 to P9.5: rows of operations, and what is asked of the log between them, are answered as by a plain log.
func TestRowsOfOperations(t *testing.T) {
	met, fired, again := map[api.Errno]int{}, 0, 0
	for seed := range 40 {
		r := rand.New(rand.NewSource(int64(seed)))
		room := []int{1, 2, 3, 8, 16}[seed%5]
		l, p := New(room), newPlain(room)
		now := []int{0, 1000, lastMinute - 40*day}[seed%3]
		for range 300 {
			checkBoth(t, l, p, anyOp(r, p, now))
			checkSome(t, r, l, p, now)
			n := len(p.ops)
			met[p.replies[n-1].Err]++
			if _, ok := p.fire(n); ok {
				fired++
			} else if p.replies[n-1].Err == api.OK && !p.did(n) {
				again++
			}
			now += []int{0, 1, 7, 60, 61, 500, 4000}[r.Intn(7)]
		}
		checkAll(t, l, p)
	}
	for _, e := range []api.Errno{api.OK, api.ErrArg, api.ErrFull, api.ErrNotFound, api.ErrBadCron, api.ErrTooManyClients, api.ErrOnce} {
		if met[e] < 50 {
			t.Errorf("the rows met the error %d only %d times", e, met[e])
		}
	}
	if fired < 1000 || again < 200 {
		t.Errorf("the rows fired %d times, and came again %d times", fired, again)
	}
}

// P9.1 to P9.5: a row that fills the log.
func TestRowThatFillsTheLog(t *testing.T) {
	r := rand.New(rand.NewSource(9))
	l, p := New(16), newPlain(16)
	for now := 0; len(p.ops) < api.MaxLog; now += r.Intn(100) {
		o := anyOp(r, p, now)
		for _, x := range l.Due(now, r.Intn(3)) {
			o = x
		}
		checkBoth(t, l, p, o)
	}
	checkAll(t, l, p)
	checkSome(t, r, l, p, 1<<41)
	checkBoth(t, l, p, set(1, 1<<41, 1, 1))
	checkLen(t, l, 2000)
}
