package state

import (
	"math"
	"slices"
	"strings"
	"testing"
	"unsafe"

	"tompion/api"
)

const (
	day = 86400
	// lastMinute: the last second of 9999 that is a whole minute.
	lastMinute = 253402300740
	never      = "0 0 30 2 *"
	minutely   = "* * * * *"
)

func set(client, req, id, due int) api.Op {
	return api.Op{Kind: api.OSet, Client: client, Req: req, Id: id, Due: due}
}

func setCron(client, req, id int, text string, stamp int) api.Op {
	return api.Op{Kind: api.OSet, Client: client, Req: req, Id: id, Cron: text, Stamp: stamp}
}

func cancel(client, req, id int) api.Op {
	return api.Op{Kind: api.OCancel, Client: client, Req: req, Id: id}
}

func fire(id, gen, occ, stamp int) api.Op {
	return api.Op{Kind: api.OFire, Id: id, Gen: gen, Occ: occ, Stamp: stamp}
}

func done(gen, due int) api.Reply { return api.Reply{Gen: gen, Due: due} }

func no(e api.Errno) api.Reply { return api.Reply{Err: e} }

func checkApply(t *testing.T, s *State, o api.Op, want api.Reply) {
	t.Helper()
	if got := s.Apply(o); got != want {
		t.Fatalf("Apply(%+v): %+v, want %+v", o, got, want)
	}
}

// checkTimers: List, and Get of each of them.
func checkTimers(t *testing.T, s *State, want ...api.Timer) {
	t.Helper()
	if got := s.List(); !slices.Equal(got, want) {
		t.Fatalf("List: %+v, want %+v", got, want)
	}
	for _, w := range want {
		if got, e := s.Get(w.Id); got != w || e != api.OK {
			t.Fatalf("Get(%d): %+v, %d, want %+v", w.Id, got, e, w)
		}
	}
}

func checkGone(t *testing.T, s *State, ids ...int) {
	t.Helper()
	for _, id := range ids {
		if got, e := s.Get(id); got != (api.Timer{}) || e != api.ErrNotFound {
			t.Fatalf("Get(%d): %+v, %d, want none", id, got, e)
		}
	}
}

func checkClients(t *testing.T, s *State, want ...int) {
	t.Helper()
	if got := s.Clients(); !slices.Equal(got, want) {
		t.Fatalf("Clients: %v, want %v", got, want)
	}
}

func checkLast(t *testing.T, s *State, client, req int, r api.Reply) {
	t.Helper()
	if gotReq, got, ok := s.Last(client); gotReq != req || got != r || !ok {
		t.Fatalf("Last(%d): %d, %+v, %v, want %d, %+v, true", client, gotReq, got, ok, req, r)
	}
}

func checkUnknown(t *testing.T, s *State, clients ...int) {
	t.Helper()
	for _, client := range clients {
		if req, r, ok := s.Last(client); req != 0 || r != (api.Reply{}) || ok {
			t.Fatalf("Last(%d): %d, %+v, %v, want none", client, req, r, ok)
		}
	}
}

// view: all that a service tells without being changed.
type view struct {
	timers  []api.Timer
	clients []int
	last    []request
}

func look(s *State) view {
	v := view{timers: s.List(), clients: s.Clients()}
	for _, client := range v.clients {
		req, r, _ := s.Last(client)
		v.last = append(v.last, request{req, r})
	}
	return v
}

func checkView(t *testing.T, s *State, want view) {
	t.Helper()
	got := look(s)
	if !slices.Equal(got.timers, want.timers) || !slices.Equal(got.clients, want.clients) || !slices.Equal(got.last, want.last) {
		t.Fatalf("it is %+v, want %+v", got, want)
	}
}

// checkNothing: an operation that is answered so, and does nothing.
func checkNothing(t *testing.T, s *State, o api.Op, want api.Reply) {
	t.Helper()
	was := look(s)
	checkApply(t, s, o, want)
	checkView(t, s, was)
}

func ends() []int {
	return []int{math.MinInt, math.MinInt + 1, -1 << 40, -1 << 32, -1, 1001, 1 << 32, 1<<40 + 1, 1 << 62, math.MaxInt - 1, math.MaxInt}
}

// P8.1: a new one has no timers and remembers nobody; each is one of its own.
func TestNewHasNone(t *testing.T) {
	for _, timers := range []int{math.MinInt, -1, 0, 1, 2, 16, 17, math.MaxInt} {
		s, other := New(timers), New(timers)
		if s == nil || other == nil || s == other {
			t.Fatal("New answers no service of its own")
		}
		checkApply(t, other, set(1, 1, 0, 5), done(1, 5))
		checkTimers(t, s)
		checkGone(t, s, 0, 1, 1000, -1)
		checkClients(t, s)
		checkUnknown(t, s, 0, 1, -1)
		checkApply(t, s, set(1, 1, 0, 5), done(1, 5))
	}
}

// P8.1, P8.2: room for as many timers as New says, 1 to 16; the last place that is free, and one timer more.
func TestRoomOfNew(t *testing.T) {
	for _, c := range [][2]int{{math.MinInt, 1}, {-17, 1}, {-1, 1}, {0, 1}, {1, 1}, {2, 2}, {3, 3}, {8, 8}, {15, 15}, {16, 16}, {17, 16}, {1000, 16}, {1 << 32, 16}, {math.MaxInt, 16}} {
		s := New(c[0])
		for i := range c[1] {
			checkApply(t, s, set(1, i, 1000-i, i), done(i+1, i))
		}
		if got := len(s.List()); got != c[1] {
			t.Fatalf("New(%d): %d timers", c[0], got)
		}
		checkApply(t, s, set(1, 50, 0, 5), no(api.ErrFull))
		checkApply(t, s, set(1, 51, 1, 5), no(api.ErrFull))
		if got := len(s.List()); got != c[1] {
			t.Fatalf("New(%d): %d timers", c[0], got)
		}
		checkGone(t, s, 0, 1)
		checkApply(t, s, set(1, 52, 1000, 77), done(c[1]+1, 77))
		checkApply(t, s, cancel(1, 53, 1000), done(c[1]+1, 77))
		checkApply(t, s, set(1, 54, 0, 5), done(c[1]+2, 5))
		checkApply(t, s, set(1, 55, 1, 5), no(api.ErrFull))
	}
}

// P8.3: List is by Ids, rising, whatever the order in which they were set; with none, some and all.
func TestListRises(t *testing.T) {
	s := New(16)
	checkTimers(t, s)
	ids := []int{500, 0, 1000, 7, 6, 8, 999, 1, 64, 63, 65, 128, 2, 300, 299, 301}
	var want []api.Timer
	for i, id := range ids {
		checkApply(t, s, set(3, i, id, 1000-id), done(i+1, 1000-id))
		want = append(want, api.Timer{Id: id, Client: 3, Gen: i + 1, Due: 1000 - id})
		slices.SortFunc(want, func(a, b api.Timer) int { return a.Id - b.Id })
		checkTimers(t, s, want...)
	}
	checkGone(t, s, 3, -1, 1001, math.MaxInt, math.MinInt)
	for i, id := range ids {
		checkApply(t, s, cancel(3, 100+i, id), done(i+1, 1000-id))
		checkGone(t, s, id)
	}
	checkTimers(t, s)
}

// P8.3: Clients are in the order in which they came, not by number, nor by who asked last.
func TestClientsAsTheyCame(t *testing.T) {
	for _, c := range [][3]int{{1, 2, 3}, {3, 2, 1}, {2, 0, -1}, {math.MaxInt, math.MinInt, 0}, {7, -7, 1 << 40}} {
		s := New(4)
		checkClients(t, s)
		for i, client := range c {
			checkUnknown(t, s, c[i:]...)
			checkApply(t, s, set(client, 5, i, i), done(i+1, i))
			checkClients(t, s, c[:i+1]...)
			checkLast(t, s, client, 5, done(i+1, i))
		}
		checkApply(t, s, cancel(c[0], 6, 2), done(3, 2))
		checkClients(t, s, c[:]...)
		checkLast(t, s, c[0], 6, done(3, 2))
		checkLast(t, s, c[1], 5, done(2, 1))
		checkLast(t, s, c[2], 5, done(3, 2))
		checkUnknown(t, s, 4, 1000)
	}
}

// busy: one with timers of each kind, and clients.
func busy(t *testing.T) *State {
	s := New(4)
	checkApply(t, s, set(1, 1, 7, 100), done(1, 100))
	checkApply(t, s, setCron(2, 1, 3, minutely, 61), done(2, 120))
	checkApply(t, s, setCron(2, 2, 4, never, 5), done(3, 0))
	return s
}

// P8.3: a Copy has the same; what is done to one of them isn't done to the other one.
func TestCopy(t *testing.T) {
	s := busy(t)
	was := look(s)
	other := s.Copy()
	if other == s {
		t.Fatal("Copy answers the same one")
	}
	checkView(t, other, was)
	checkApply(t, s, fire(7, 1, 100, 100), done(1, 100))
	checkApply(t, s, fire(3, 2, 120, 125), done(2, 120))
	checkApply(t, s, cancel(1, 2, 4), done(3, 0))
	checkApply(t, s, set(3, 9, 9, 9), done(4, 9))
	checkView(t, other, was)

	mine := look(s)
	checkApply(t, other, fire(7, 1, 100, 101), done(1, 100))
	checkApply(t, other, setCron(5, 1, 3, "0 * * * *", 200), done(4, 3600))
	checkApply(t, other, set(2, 3, 8, 8), done(5, 8))
	checkApply(t, other, set(2, 4, 9, 8), done(6, 8))
	checkApply(t, other, set(2, 5, 10, 8), no(api.ErrFull))
	checkApply(t, other, cancel(3, 9, 8), no(api.ErrTooManyClients))
	checkView(t, s, mine)
	checkClients(t, s, 1, 2, 3)
	checkClients(t, other, 1, 2, 5)
	checkApply(t, s, fire(3, 2, 180, 180), done(2, 180))
	checkApply(t, other, fire(3, 4, 3600, 3600), done(4, 3600))
}

// P8.3: a copy of a copy, and one of a new one, go on like any other one.
func TestCopyOfNew(t *testing.T) {
	for _, s := range []*State{New(2).Copy(), New(2).Copy().Copy()} {
		checkTimers(t, s)
		checkClients(t, s)
		checkApply(t, s, set(1, 1, 1, 1), done(1, 1))
		checkApply(t, s, setCron(1, 2, 2, minutely, 0), done(2, 60))
		checkApply(t, s, set(1, 3, 3, 3), no(api.ErrFull))
		checkApply(t, s, fire(2, 2, 60, 60), done(2, 60))
	}
}

// P8.3: copies may be used by several at the same time.
func TestCopiesTogether(t *testing.T) {
	s := busy(t)
	ended := make(chan view)
	for range 8 {
		go func(s *State) {
			for i := range 200 {
				s.Apply(fire(3, 2, 120+60*i, 120+60*i))
				s.Apply(setCron(1, 2+i, 7, "0 0 1 * "+strings.Repeat("*", i%3), i))
			}
			ended <- look(s)
		}(s.Copy())
	}
	want := <-ended
	for range 7 {
		got := <-ended
		if !slices.Equal(got.timers, want.timers) || !slices.Equal(got.last, want.last) {
			t.Errorf("%+v, want %+v", got, want)
		}
	}
	checkTimers(t, s, api.Timer{Id: 3, Client: 2, Gen: 2, Due: 120, Cron: minutely}, api.Timer{Id: 4, Client: 2, Gen: 3, Cron: never}, api.Timer{Id: 7, Client: 1, Gen: 1, Due: 100})
}

// P8.3: what is answered is new memory: whoever writes to it changes nothing here, nor in another answer.
func TestAnswersAreNewMemory(t *testing.T) {
	s := busy(t)
	was := look(s)
	list, again := s.List(), s.List()
	for i := range list {
		list[i] = api.Timer{Id: 77, Cron: "x"}
	}
	_ = append(list[:0], api.Timer{Id: 78})
	clients, others := s.Clients(), s.Clients()
	for i := range clients {
		clients[i] = 77
	}
	_ = append(clients[:0], 78)
	if !slices.Equal(again, was.timers) || !slices.Equal(others, was.clients) {
		t.Fatal(again, others)
	}
	checkView(t, s, was)
	spare := s.Clients()
	_ = append(spare, 99)
	checkApply(t, s, set(3, 1, 1, 1), done(4, 1))
	_ = append(spare, 98)
	checkClients(t, s, 1, 2, 3)
}

// P8.2: a text that is handed in isn't kept: the timer has one of its own.
func TestTextIsntKept(t *testing.T) {
	long := "0 0 1 1 *" + strings.Repeat("x", 1000)
	text := long[:9]
	s := New(1)
	checkApply(t, s, setCron(1, 1, 5, text, 0), done(1, 365*day))
	got, _ := s.Get(5)
	if got.Cron != text || unsafe.StringData(got.Cron) == unsafe.StringData(text) {
		t.Fatal("the text that was handed in is kept")
	}
}

// P8.3: of a nil *State, whatever it is asked.
func TestNilState(t *testing.T) {
	var s *State
	for _, n := range append(ends(), 0, 1, 7, 100, 1000) {
		for kind := -1; kind < 6; kind++ {
			o := api.Op{Kind: kind, Client: n, Req: n, Id: n, Gen: n, Occ: n, Due: n, Stamp: n, Epoch: n}
			checkApply(t, s, o, no(api.ErrNil))
			o.Cron = minutely
			checkApply(t, s, o, no(api.ErrNil))
			if s.Fires(o) {
				t.Fatal("a nil one fires")
			}
		}
		if got, e := s.Get(n); got != (api.Timer{}) || e != api.ErrNil {
			t.Fatal(got, e)
		}
		checkUnknown(t, s, n)
	}
	if s.List() != nil || s.Clients() != nil || s.Copy() != nil {
		t.Fatal(s.List(), s.Clients(), s.Copy())
	}
}

// P8.1: one that New didn't make panics at nothing (DOC.md, rule 1): it is as New(0).
func TestStateOfItsOwn(t *testing.T) {
	firsts := []api.Op{set(1, 1, 7, 100), setCron(1, 1, 7, minutely, 5), setCron(1, 1, 7, "x", 5), set(1, 1, -1, 5), cancel(1, 1, 7), fire(7, 1, 100, 100), {}, {Kind: 9}}
	for _, o := range firsts {
		for _, s := range []*State{{}, new(State).Copy()} {
			checkTimers(t, s)
			checkGone(t, s, 0, 7, -1)
			checkClients(t, s)
			checkUnknown(t, s, 0, 1)
			if s.Fires(fire(0, 0, 1, 1)) || s.Fires(fire(0, 0, 0, 0)) {
				t.Fatal("it fires")
			}
			made := New(0)
			checkApply(t, s, o, made.Apply(o))
			checkView(t, s, look(made))
			for i, o := range append(firsts, set(2, 2, 8, 5), cancel(2, 3, 7), set(2, 4, 8, 5), set(2, 5, 9, 5), cancel(3, 0, 3), set(4, 0, 3, 1)) {
				o.Req += i
				checkApply(t, s, o, made.Apply(o))
				checkView(t, s, look(made))
			}
			checkApply(t, s, set(2, 99, 9, 5), no(api.ErrFull))
		}
	}
}

// P8.2, P8.3: the greatest and the least int in each field, alone and together, of each kind: no panic, and what a plain service answers.
func TestEndsInEachField(t *testing.T) {
	for _, n := range append(ends(), 0, 1, 1000, 1<<40) {
		for mask := range 1 << 8 {
			s, p := busy(t), busyPlain()
			for _, kind := range []int{api.OSet, api.OCancel, api.OFire, 0, n} {
				for _, text := range []string{"", minutely, "x"} {
					o := api.Op{Kind: kind, Client: 1, Req: 2, Id: 7, Gen: 1, Occ: 100, Stamp: 100, Cron: text}
					for i, field := range []*int{&o.Client, &o.Req, &o.Id, &o.Gen, &o.Occ, &o.Due, &o.Stamp, &o.Epoch} {
						if mask>>i&1 == 1 {
							*field = n
						}
					}
					if s.Fires(o) != p.fires(o) {
						t.Fatalf("Fires(%+v)", o)
					}
					checkApply(t, s, o, p.apply(o))
				}
			}
			checkPlain(t, s, p)
		}
	}
	s := busy(t)
	checkGone(t, s, ends()...)
	checkUnknown(t, s, ends()...)
}
