package state

import (
	"math"
	"math/rand"
	"slices"
	"testing"

	"tompion/api"
)

// beat: a text whose times are every so many seconds, from the first one on; none, if that is 0.
type beat struct {
	text         string
	every, first int
}

func beats() []beat {
	return []beat{{minutely, 60, 0}, {"*/5 * * * *", 300, 0}, {"0 * * * *", 3600, 0}, {"7 * * * * +0030", 3600, 37 * 60}, {"30 10 * * * +0100", day, 34200}, {"0 0 * * mon", 7 * day, 4 * day}, {never, 0, 0}, {"0 0 31 feb,apr *", 0, 0}}
}

// firstBehind: the first time of a text behind a second, 0 if there is none; false, if it is refused.
func firstBehind(text string, after int) (int, bool) {
	i := slices.IndexFunc(beats(), func(b beat) bool { return b.text == text })
	if i < 0 {
		return 0, false
	}
	b := beats()[i]
	if b.every == 0 || after >= lastMinute {
		return 0, true
	}
	at := b.first
	if after >= at {
		at += (after-at)/b.every*b.every + b.every
	}
	if at > lastMinute {
		return 0, true
	}
	return at, true
}

// plainClient: what is remembered of one.
type plainClient struct {
	client, req int
	reply       api.Reply
}

// plainState: a service of plain lists, that looks for all it needs from the front.
type plainState struct {
	room, gens int
	timers     []api.Timer // in the order in which they were set
	known      []plainClient
}

func (p *plainState) copy() *plainState {
	return &plainState{p.room, p.gens, slices.Clone(p.timers), slices.Clone(p.known)}
}

func (p *plainState) place(id int) int {
	return slices.IndexFunc(p.timers, func(x api.Timer) bool { return x.Id == id })
}

func (p *plainState) fires(o api.Op) bool {
	i := p.place(o.Id)
	return o.Kind == 3 && i >= 0 && p.timers[i].Gen == o.Gen && p.timers[i].Due == o.Occ && o.Occ > 0 && o.Stamp >= o.Occ
}

func (p *plainState) apply(o api.Op) api.Reply {
	switch {
	case o.Kind == 3 && p.fires(o):
		i := p.place(o.Id)
		if x := &p.timers[i]; x.Cron != "" {
			x.Due, _ = firstBehind(x.Cron, o.Stamp)
		} else {
			p.timers = slices.Delete(p.timers, i, i+1)
		}
		return api.Reply{Gen: o.Gen, Due: o.Occ}
	case o.Kind == 3:
		return api.Reply{Err: api.ErrNotFound}
	case o.Kind != 1 && o.Kind != 2:
		return api.Reply{Err: api.ErrArg}
	}
	i := slices.IndexFunc(p.known, func(k plainClient) bool { return k.client == o.Client })
	switch {
	case i < 0 && len(p.known) == 3:
		return api.Reply{Err: api.ErrTooManyClients}
	case i < 0:
		i = len(p.known)
		p.known = append(p.known, plainClient{client: o.Client})
	case o.Req < p.known[i].req:
		return api.Reply{Err: api.ErrOnce}
	case o.Req == p.known[i].req:
		return p.known[i].reply
	}
	p.known[i].req, p.known[i].reply = o.Req, p.change(o)
	return p.known[i].reply
}

func (p *plainState) change(o api.Op) api.Reply {
	i := p.place(o.Id)
	if o.Kind == 2 {
		if i < 0 {
			return api.Reply{Err: api.ErrNotFound}
		}
		x := p.timers[i]
		p.timers = slices.Delete(p.timers, i, i+1)
		return api.Reply{Gen: x.Gen, Due: x.Due}
	}
	due, right := o.Due, true
	if o.Cron != "" {
		due, right = firstBehind(o.Cron, o.Stamp)
	}
	switch {
	case o.Id < 0 || o.Id > 1000 || o.Due < 0 || o.Due > 1<<40 || o.Cron != "" && o.Due != 0:
		return api.Reply{Err: api.ErrArg}
	case !right:
		return api.Reply{Err: api.ErrBadCron}
	case i < 0 && len(p.timers) == p.room:
		return api.Reply{Err: api.ErrFull}
	case i >= 0:
		p.timers = slices.Delete(p.timers, i, i+1)
	}
	p.gens++
	p.timers = append(p.timers, api.Timer{Id: o.Id, Client: o.Client, Gen: p.gens, Due: due, Cron: o.Cron})
	return api.Reply{Gen: p.gens, Due: due}
}

// busyPlain: busy's, as a plain one.
func busyPlain() *plainState {
	p := &plainState{room: 4}
	p.apply(set(1, 1, 7, 100))
	p.apply(setCron(2, 1, 3, minutely, 61))
	p.apply(setCron(2, 2, 4, never, 5))
	return p
}

// checkPlain: that it tells what a plain one does.
func checkPlain(t *testing.T, s *State, p *plainState) {
	t.Helper()
	want := slices.Clone(p.timers)
	slices.SortFunc(want, func(a, b api.Timer) int { return a.Id - b.Id })
	checkTimers(t, s, want...)
	var clients []int
	for _, k := range p.known {
		clients = append(clients, k.client)
		checkLast(t, s, k.client, k.req, k.reply)
	}
	checkClients(t, s, clients...)
}

// anyOp: mostly one that does something, or that misses it by a little.
func anyOp(r *rand.Rand, p *plainState, now int) api.Op {
	ids := []int{0, 1, 2, 3, 5, 8, 13, 500, 999, 1000, -1, 1001}
	o := api.Op{Kind: 1 + r.Intn(2), Client: r.Intn(3), Req: 1 + r.Intn(4), Id: ids[r.Intn(len(ids))], Stamp: now, Epoch: r.Intn(3)}
	if r.Intn(40) == 0 {
		o.Client = 3 + r.Intn(3)
	}
	if i := slices.IndexFunc(p.known, func(k plainClient) bool { return k.client == o.Client }); i >= 0 {
		o.Req = p.known[i].req - 1 + min(r.Intn(6), 2)
	}
	if o.Kind == 1 {
		texts := beats()
		switch r.Intn(8) {
		case 0:
			o.Cron = []string{"x", "60 * * * *", " "}[r.Intn(3)]
		case 1, 2, 3:
			o.Cron = texts[r.Intn(len(texts))].text
		case 4:
			o.Due = []int{-1, 0, 1 << 40, 1<<40 + 1, now}[r.Intn(5)]
		default:
			o.Due = max(now, 0) + r.Intn(500)
		}
	}
	if len(p.timers) > 0 && r.Intn(2) == 0 {
		x := p.timers[r.Intn(len(p.timers))]
		o.Kind, o.Id, o.Gen, o.Occ = 3, x.Id, x.Gen, x.Due
		// Times to come are often asked for ahead of their time.
		o.Stamp = max(now, x.Due) - r.Intn(2)*r.Intn(2)
	}
	if r.Intn(12) == 0 {
		spoil(r, &o)
	}
	return o
}

func spoil(r *rand.Rand, o *api.Op) {
	fields := []*int{&o.Kind, &o.Client, &o.Req, &o.Id, &o.Gen, &o.Occ, &o.Due, &o.Stamp}
	field := fields[r.Intn(len(fields))]
	switch r.Intn(8) {
	case 0:
		*field = math.MaxInt
	case 1:
		*field = math.MinInt
	case 2, 3, 4:
		*field++
	default:
		*field--
	}
}

// P8.1 to P8.4: rows of operations, on services and their copies, answer what plain lists would; each token fires once at most, and each generation at rising times.
func TestRowsOfOperations(t *testing.T) {
	met, fired := map[api.Errno]int{}, 0
	for seed := range 60 {
		r := rand.New(rand.NewSource(int64(seed)))
		room := []int{1, 2, 3, 8, 16}[seed%5]
		states, plain, times := []*State{New(room)}, []*plainState{{room: room}}, []map[int]int{{}}
		now := []int{-100, 0, 1000, lastMinute - 40*day}[seed%4]
		for range 600 {
			i := r.Intn(len(states))
			o := anyOp(r, plain[i], now)
			if got, want := states[i].Fires(o), plain[i].fires(o); got != want {
				t.Fatalf("seed %d: Fires(%+v): %v, want %v", seed, o, got, want)
			}
			want := plain[i].apply(o)
			checkApply(t, states[i], o, want)
			checkPlain(t, states[i], plain[i])
			met[want.Err]++
			if o.Kind == api.OFire && want.Err == api.OK {
				fired++
				if o.Occ <= times[i][o.Gen] || o.Stamp < o.Occ {
					t.Fatalf("seed %d: the generation %d fires at %d, by %d, behind %d", seed, o.Gen, o.Occ, o.Stamp, times[i][o.Gen])
				}
				times[i][o.Gen] = o.Stamp
			}
			if len(states) < 3 && r.Intn(60) == 0 {
				own := map[int]int{}
				for gen, at := range times[i] {
					own[gen] = at
				}
				states, plain, times = append(states, states[i].Copy()), append(plain, plain[i].copy()), append(times, own)
			}
			now += []int{0, 1, 7, 60, 61, 500, 4000, 2 * day}[r.Intn(8)]
		}
		for i := range states {
			checkPlain(t, states[i], plain[i])
		}
	}
	for _, e := range []api.Errno{api.OK, api.ErrArg, api.ErrFull, api.ErrNotFound, api.ErrBadCron, api.ErrTooManyClients, api.ErrOnce} {
		if met[e] < 200 {
			t.Errorf("the rows met the error %d only %d times", e, met[e])
		}
	}
	if fired < 2000 {
		t.Errorf("the rows fired %d times", fired)
	}
}
