package oplog

import (
	"math"
	"slices"
	"strings"
	"testing"
	"unsafe"

	"tompion/api"
)

const (
	day = 86400
	// lastMinute: the last second of 9999 that is a whole minute.
	lastMinute = 253402300740
	never      = "0 0 30 2 *"
	minutely   = "* * * * *"
)

func set(client, req, id, due int) api.Op {
	return api.Op{Kind: api.OSet, Client: client, Req: req, Id: id, Due: due}
}

func setCron(client, req, id int, text string, stamp int) api.Op {
	return api.Op{Kind: api.OSet, Client: client, Req: req, Id: id, Cron: text, Stamp: stamp}
}

func cancel(client, req, id int) api.Op {
	return api.Op{Kind: api.OCancel, Client: client, Req: req, Id: id}
}

func fire(id, gen, occ, stamp int) api.Op {
	return api.Op{Kind: api.OFire, Id: id, Gen: gen, Occ: occ, Stamp: stamp}
}

func done(gen, due int) api.Reply { return api.Reply{Gen: gen, Due: due} }

func no(e api.Errno) api.Reply { return api.Reply{Err: e} }

func gone() api.Reply { return no(api.ErrNotFound) }

// ends: the greatest and the least int, and others that no argument has in earnest.
func ends() []int {
	return []int{math.MinInt, math.MinInt + 1, -1 << 40, -1 << 32, 1 << 32, 1<<40 + 1, 1 << 62, math.MaxInt - 1, math.MaxInt}
}

func checkAppend(t *testing.T, l *Log, o api.Op, seq int, r api.Reply) {
	t.Helper()
	if gotSeq, got, e := l.Append(o); gotSeq != seq || got != r || e != api.OK {
		t.Fatalf("Append(%+v): %d, %+v, %d, want %d, %+v, OK", o, gotSeq, got, e, seq, r)
	}
	if got, e := l.Op(seq); got != o || e != api.OK {
		t.Fatalf("Op(%d): %+v, %d, want %+v", seq, got, e, o)
	}
	if got, e := l.Reply(seq); got != r || e != api.OK {
		t.Fatalf("Reply(%d): %+v, %d, want %+v", seq, got, e, r)
	}
	checkLen(t, l, seq)
}

// checkRefused: an operation that isn't appended, and leaves nothing behind.
func checkRefused(t *testing.T, l *Log, o api.Op, e api.Errno) {
	t.Helper()
	was := look(l)
	if seq, r, got := l.Append(o); seq != 0 || r != (api.Reply{}) || got != e {
		t.Fatalf("Append(%+v): %d, %+v, %d, want 0, none, %d", o, seq, r, got, e)
	}
	checkView(t, l, was)
}

func checkLen(t *testing.T, l *Log, want int) {
	t.Helper()
	if got := l.Len(); got != want {
		t.Fatalf("Len: %d, want %d", got, want)
	}
}

func checkNone(t *testing.T, l *Log, e api.Errno, seqs ...int) {
	t.Helper()
	for _, seq := range seqs {
		if got, err := l.Op(seq); got != (api.Op{}) || err != e {
			t.Fatalf("Op(%d): %+v, %d, want none, %d", seq, got, err, e)
		}
		if got, err := l.Reply(seq); got != (api.Reply{}) || err != e {
			t.Fatalf("Reply(%d): %+v, %d, want none, %d", seq, got, err, e)
		}
	}
}

func checkFrom(t *testing.T, l *Log, seq, most int, want []api.Op) {
	t.Helper()
	if got := l.From(seq, most); !slices.Equal(got, want) {
		t.Fatalf("From(%d, %d): %+v, want %+v", seq, most, got, want)
	}
}

func checkTimers(t *testing.T, l *Log, want ...api.Timer) {
	t.Helper()
	if got := l.Timers(); !slices.Equal(got, want) {
		t.Fatalf("Timers: %+v, want %+v", got, want)
	}
}

// view: much of what a log tells, in memory of the test's own.
type view struct {
	ops     []api.Op
	replies []api.Reply
	timers  []api.Timer
	fires   []api.Fire
	newest  []int
	due     []api.Op
}

func look(l *Log) view {
	v := view{ops: slices.Clone(l.From(1, math.MaxInt)), timers: slices.Clone(l.Timers()), due: slices.Clone(l.Due(math.MaxInt, 99))}
	for seq := 1; seq <= l.Len(); seq++ {
		r, _ := l.Reply(seq)
		f, _ := l.Fire(seq)
		v.replies, v.fires = append(v.replies, r), append(v.fires, f)
	}
	for id := range 12 {
		v.newest = append(v.newest, l.Newest(id))
	}
	return v
}

func checkView(t *testing.T, l *Log, want view) {
	t.Helper()
	got := look(l)
	if !slices.Equal(got.ops, want.ops) || !slices.Equal(got.replies, want.replies) || !slices.Equal(got.timers, want.timers) ||
		!slices.Equal(got.fires, want.fires) || !slices.Equal(got.newest, want.newest) || !slices.Equal(got.due, want.due) {
		t.Fatalf("it is %+v, want %+v", got, want)
	}
}

// busyOps: operations of each kind, those that do something, and those that don't.
func busyOps() []api.Op {
	return []api.Op{
		set(1, 1, 7, 100),                    // 1: generation 1
		setCron(2, 1, 3, minutely, 61),       // 2: generation 2, due at 120
		setCron(2, 2, 4, never, 5),           // 3: generation 3, due at 0
		cancel(1, 2, 9),                      // 4: there is none
		set(1, 2, 8, 50),                     // 5: it comes again
		fire(7, 1, 100, 110),                 // 6: timer 7 is gone
		fire(7, 1, 100, 110),                 // 7: it is gone already
		fire(3, 2, 120, 130),                 // 8: due at 180
		set(3, 1, 3, 170),                    // 9: generation 4, in place of client 2's
		set(1, 3, 7, 170),                    // 10: generation 5
		{Kind: 9, Client: 1, Req: 9, Id: 7},  // 11: no kind
		set(4, 1, 1, 5),                      // 12: too many clients
		fire(3, 4, 170, 171),                 // 13: timer 3 is gone
		cancel(3, 2, 4),                      // 14: timer 4 is gone
		set(1, 1, 5, 5),                      // 15: a request of long ago
		setCron(1, 4, 5, "x", 0),             // 16: no text
		setCron(1, 5, 5, "0 * * * *", 4000),  // 17: generation 6, due at 7200
		fire(5, 6, 7200, 7199),               // 18: too early
		fire(5, 6, 7200, 20000),              // 19: due at 21600
		{Kind: api.OSet, Client: 1, Req: 5},  // 20: it comes again
		setCron(2, 3, 3, "0 0 1 1 *", 86400), // 21: generation 7
	}
}

// busyReplies: what those operations are answered.
func busyReplies() []api.Reply {
	return []api.Reply{
		done(1, 100), done(2, 120), done(3, 0), gone(), gone(), done(1, 100), gone(), done(2, 120), done(4, 170), done(5, 170),
		no(api.ErrArg), no(api.ErrTooManyClients), done(4, 170), done(3, 0), no(api.ErrOnce), no(api.ErrBadCron), done(6, 7200), gone(), done(6, 7200), done(6, 7200), done(7, 365*day),
	}
}

func busy(t *testing.T) *Log {
	t.Helper()
	l := New(4)
	for i, o := range busyOps() {
		checkAppend(t, l, o, i+1, busyReplies()[i])
	}
	return l
}

// P9.1: a new one has none; each is one of its own.
func TestNewHasNone(t *testing.T) {
	for _, timers := range append(ends(), -1, 0, 1, 2, 16, 17) {
		l, other := New(timers), New(timers)
		if l == nil || other == nil || l == other {
			t.Fatal("New answers no log of its own")
		}
		checkAppend(t, other, set(1, 1, 7, 5), 1, done(1, 5))
		checkEmpty(t, l)
		checkAppend(t, l, set(1, 1, 7, 6), 1, done(1, 6))
	}
}

// checkEmpty: a log without operations.
func checkEmpty(t *testing.T, l *Log) {
	t.Helper()
	checkLen(t, l, 0)
	checkTimers(t, l)
	for _, n := range append(ends(), -1, 0, 1, 2, 7, 2000) {
		checkNone(t, l, api.ErrNone, n)
		checkFrom(t, l, n, 9, nil)
		checkFrom(t, l, 1, n, nil)
		checkNoFire(t, l, n)
		checkNoRequest(t, l, [2]int{n, 1}, [2]int{1, n}, [2]int{n, n})
		checkRead(t, l, n, 9, gone())
		checkRead(t, l, 7, n, gone())
		checkNewest(t, l, n, 0)
		checkDue(t, l, n, 9)
		checkDue(t, l, 9, n)
		checkFires(t, l, [4]int{n, 0, 9, 9}, 0)
		checkFires(t, l, [4]int{1, 0, n, 9}, 0)
		checkFires(t, l, [4]int{1, 0, 9, n}, 0)
		checkFires(t, l, [4]int{1, n, 9, 9}, max(n, 0))
		checkFires(t, l, [4]int{1, n, n, 9}, n)
	}
}

// P9.1: the service has room for as many timers as New says: 1 to 16.
func TestRoomOfNew(t *testing.T) {
	for _, c := range [][2]int{{math.MinInt, 1}, {-1, 1}, {0, 1}, {1, 1}, {2, 2}, {15, 15}, {16, 16}, {17, 16}, {math.MaxInt, 16}} {
		l := New(c[0])
		for i := range c[1] {
			checkAppend(t, l, set(1, i, i, i), i+1, done(i+1, i))
		}
		checkAppend(t, l, set(1, 50, 500, 5), c[1]+1, no(api.ErrFull))
		if got := len(l.Timers()); got != c[1] {
			t.Fatalf("New(%d): %d timers", c[0], got)
		}
	}
}

// P9.1: operations are numbered from 1 on, those that did nothing, too; Op and Reply tell each, and none below 1 and behind Len.
func TestOpAndReply(t *testing.T) {
	l := New(4)
	checkNone(t, l, api.ErrNone, 0, 1)
	for i, o := range busyOps() {
		checkAppend(t, l, o, i+1, busyReplies()[i])
		checkNone(t, l, api.ErrNone, append(ends(), -1, 0, i+2, i+3)...)
		for k := range i + 1 {
			if got, e := l.Op(k + 1); got != busyOps()[k] || e != api.OK {
				t.Fatalf("Op(%d) behind %d: %+v, %d", k+1, i+1, got, e)
			}
			if got, e := l.Reply(k + 1); got != busyReplies()[k] || e != api.OK {
				t.Fatalf("Reply(%d) behind %d: %+v, %d", k+1, i+1, got, e)
			}
		}
	}
}

// P9.1: each field of an operation is kept as it is, also those that its kind hasn't.
func TestOpIsKeptWhole(t *testing.T) {
	l := New(1)
	seq := 0
	for _, kind := range []int{api.OSet, api.OCancel, api.OFire, 0, 4, -1} {
		for _, text := range []string{"", "x", "\x00\xff", minutely} {
			seq++
			o := api.Op{Kind: kind, Client: 11, Req: seq, Id: 13, Gen: 14, Occ: 15, Due: 16, Stamp: 17, Epoch: 18, Cron: text}
			if got, _, e := l.Append(o); got != seq || e != api.OK {
				t.Fatal(got, e)
			}
			if got, e := l.Op(seq); got != o || e != api.OK {
				t.Fatalf("Op(%d): %+v, %d, want %+v", seq, got, e, o)
			}
			checkFrom(t, l, seq, 1, []api.Op{o})
		}
	}
}

// P9.1: there is room for 2000 operations, whatever they do; one more is ErrFull, and leaves nothing behind.
func TestRoomForOperations(t *testing.T) {
	for _, c := range []struct {
		name string
		op   func(i int) api.Op
	}{
		{"sets", func(i int) api.Op { return set(1, i, i%3, 1000+i) }},
		{"cancels of none", func(i int) api.Op { return cancel(1, i, 5) }},
		{"one request", func(int) api.Op { return set(1, 1, 7, 100) }},
		{"no kind", func(int) api.Op { return api.Op{} }},
	} {
		l := New(3)
		for i := 1; i <= api.MaxLog; i++ {
			if seq, _, e := l.Append(c.op(i)); seq != i || e != api.OK {
				t.Fatalf("%s: operation %d: %d, %d", c.name, i, seq, e)
			}
			if i == 1 || i == api.MaxLog-1 {
				checkLen(t, l, i)
			}
		}
		checkLen(t, l, 2000)
		checkNone(t, l, api.ErrNone, 0, 2001, 2002)
		checkFrom(t, l, 2000, 9, []api.Op{c.op(2000)})
		checkFrom(t, l, 2001, 9, nil)
		for _, o := range []api.Op{set(1, 5000, 1, 7), set(2, 1, 1, 7), cancel(1, 5001, 1), fire(1, 1999, 2999, 9999), fire(2, 2000, 3000, 9999), {}, {Kind: 9}, setCron(1, 5002, 2, minutely, 0)} {
			checkRefused(t, l, o, api.ErrFull)
		}
		checkNoRequest(t, l, [2]int{1, 5000}, [2]int{2, 1}, [2]int{1, 5001}, [2]int{1, 5002})
	}
}

// P9.1: a text of 256 bytes may be, of 257 not, whatever the kind; where there is no room, that is told first.
func TestLongTexts(t *testing.T) {
	good := minutely + strings.Repeat(" ", api.MaxText-len(minutely))
	l := New(2)
	for _, kind := range []int{api.OSet, api.OCancel, api.OFire, 0, 9, math.MinInt} {
		for _, text := range []string{good + " ", strings.Repeat("x", 257), strings.Repeat("é", 129), strings.Repeat("x", 1<<16)} {
			checkRefused(t, l, api.Op{Kind: kind, Client: 1, Req: 1, Id: 7, Cron: text}, api.ErrLong)
			checkLen(t, l, 0)
			checkNoRequest(t, l, [2]int{1, 1})
		}
	}
	checkAppend(t, l, setCron(1, 1, 7, good, 5), 1, done(1, 60))
	checkAppend(t, l, setCron(1, 2, 7, strings.Repeat("x", 256), 5), 2, no(api.ErrBadCron))
	checkAppend(t, l, setCron(1, 3, 7, strings.Repeat("é", 128), 5), 3, no(api.ErrBadCron))
	checkAppend(t, l, api.Op{Kind: api.OCancel, Client: 1, Req: 4, Id: 9, Cron: good}, 4, gone())
	checkAppend(t, l, api.Op{Kind: api.OFire, Id: 7, Gen: 1, Occ: 60, Stamp: 60, Cron: good}, 5, done(1, 60))
	checkAppend(t, l, api.Op{Kind: 9, Cron: good}, 6, no(api.ErrArg))
	checkTimers(t, l, api.Timer{Id: 7, Client: 1, Gen: 1, Due: 120, Cron: good})
	for i := 6; i < api.MaxLog; i++ {
		if i%333 == 0 {
			checkRefused(t, l, setCron(1, 5, 8, good+" ", 5), api.ErrLong)
		}
		l.Append(cancel(1, 5, 9))
	}
	checkRefused(t, l, setCron(1, 6, 8, good+" ", 5), api.ErrFull)
	checkRefused(t, l, setCron(1, 6, 8, good, 5), api.ErrFull)
	checkRefused(t, l, set(1, 6, 8, 5), api.ErrFull)
}

// P9.1: From tells those from one on, the first ones of them.
func TestFrom(t *testing.T) {
	l := New(4)
	all := busyOps()
	for i, o := range all {
		l.Append(o)
		n := i + 1
		for _, most := range []int{1, 2, n - 1, n, n + 1, 2000, math.MaxInt} {
			for _, seq := range append(ends(), -1, 0, 1, 2, n/2, n-1, n, n+1, n+2) {
				var want []api.Op
				for k := max(seq, 1); k <= n && len(want) < most; k++ {
					want = append(want, all[k-1])
				}
				checkFrom(t, l, seq, most, want)
			}
		}
		for _, most := range []int{0, -1, -n, math.MinInt} {
			for _, seq := range append(ends(), -1, 0, 1, n, n+1) {
				checkFrom(t, l, seq, most, nil)
			}
		}
	}
	checkFrom(t, l, 20, 1, all[19:20])
	checkFrom(t, l, 20, 9, all[19:])
	checkFrom(t, l, -5, 3, all[:3])
}

// P9.1: what is answered is new memory: whoever writes to it changes nothing here, nor in another answer.
func TestAnswersAreNewMemory(t *testing.T) {
	l := busy(t)
	was := look(l)
	for range 2 {
		for _, list := range [][]api.Op{l.From(1, 5), l.From(1, 99), l.From(20, 9), l.Due(1<<40, 9), l.Due(7200, 1)} {
			for i := range list {
				list[i] = api.Op{Kind: 77, Cron: "y"}
			}
			_ = append(list, api.Op{Kind: 78})
			_ = append(list[:0], api.Op{Kind: 79})
		}
		for _, most := range []int{1, 2, 99} {
			list, _ := l.Fires(1, 0, 99, most)
			for i := range list {
				list[i] = api.Fire{Seq: 77}
			}
			_ = append(list, api.Fire{Seq: 78})
		}
		timers := l.Timers()
		for i := range timers {
			timers[i] = api.Timer{Id: 77}
		}
		_ = append(timers, api.Timer{Id: 78})
		checkView(t, l, was)
	}
	spare := l.From(1, 99)
	_ = append(spare, api.Op{Kind: 77})
	checkAppend(t, l, cancel(1, 9, 7), 22, done(5, 170))
	_ = append(spare, api.Op{Kind: 78})
	checkFrom(t, l, 22, 9, []api.Op{cancel(1, 9, 7)})
	if len(spare) != 21 {
		t.Fatal(len(spare))
	}
}

// P9.1: a text that is handed in isn't kept: the operation has one of its own.
func TestTextIsntKept(t *testing.T) {
	long := "0 0 1 1 *" + strings.Repeat("x", 1000)
	text := long[:9]
	l := New(1)
	checkAppend(t, l, setCron(1, 1, 5, text, 0), 1, done(1, 365*day))
	got, _ := l.Op(1)
	if got.Cron != text || unsafe.StringData(got.Cron) == unsafe.StringData(text) {
		t.Fatal("the text that was handed in is kept")
	}
}

// P9.4: of a nil *Log, whatever it is asked.
func TestNilLog(t *testing.T) {
	var l *Log
	for _, n := range append(ends(), -1, 0, 1, 7, 2000) {
		for kind := -1; kind < 6; kind++ {
			for _, text := range []string{"", minutely, strings.Repeat("x", 257)} {
				o := api.Op{Kind: kind, Client: n, Req: n, Id: n, Gen: n, Occ: n, Due: n, Stamp: n, Epoch: n, Cron: text}
				if seq, r, e := l.Append(o); seq != 0 || r != (api.Reply{}) || e != api.ErrNil {
					t.Fatal(seq, r, e)
				}
			}
		}
		checkNone(t, l, api.ErrNil, n)
		checkFrom(t, l, n, 9, nil)
		checkFrom(t, l, 1, n, nil)
		checkNoFire(t, l, n)
		checkNoRequest(t, l, [2]int{n, n})
		checkRead(t, l, n, n, no(api.ErrNil))
		checkNewest(t, l, n, 0)
		checkDue(t, l, n, 9)
		checkDue(t, l, 9, n)
		checkFires(t, l, [4]int{n, n, n, n}, 0)
		checkFires(t, l, [4]int{n, 5, 9, 9}, 0)
	}
	checkLen(t, l, 0)
	checkTimers(t, l)
}

// P9.1: one that New didn't make panics at nothing (DOC.md, rule 1): it is as New(0).
func TestLogOfItsOwn(t *testing.T) {
	checkEmpty(t, new(Log))
	for i := range busyOps() {
		l, made := new(Log), New(0)
		checkRefused(t, l, setCron(1, 1, 1, strings.Repeat("x", 257), 0), api.ErrLong)
		checkEmpty(t, l)
		for k, o := range append(busyOps()[i:], busyOps()[:i]...) {
			seq, r, e := made.Append(o)
			if seq != k+1 || e != api.OK {
				t.Fatal(seq, e)
			}
			checkAppend(t, l, o, seq, r)
			checkView(t, l, look(made))
		}
	}
}

// P9.1 to P9.4: the greatest and the least int in each field, alone and together, of each kind: no panic, and what a plain log answers.
func TestEndsInEachField(t *testing.T) {
	for _, n := range append(ends(), -1, 0, 1, 1000, 1001, 1<<40) {
		for mask := range 1 << 8 {
			l, p := New(4), newPlain(4)
			for _, o := range []api.Op{set(1, 1, 7, 100), setCron(2, 1, 3, minutely, 61)} {
				checkBoth(t, l, p, o)
			}
			for _, kind := range []int{api.OSet, api.OCancel, api.OFire, 0, n} {
				for _, text := range []string{"", minutely, "x"} {
					o := api.Op{Kind: kind, Client: 1, Req: 2, Id: 7, Gen: 1, Occ: 100, Stamp: 100, Cron: text}
					for i, field := range []*int{&o.Client, &o.Req, &o.Id, &o.Gen, &o.Occ, &o.Due, &o.Stamp, &o.Epoch} {
						if mask>>i&1 == 1 {
							*field = n
						}
					}
					checkBoth(t, l, p, o)
				}
			}
			for _, id := range []int{3, 7, n} {
				checkRead(t, l, id, 99, p.read(id, 99))
				checkNewest(t, l, id, p.newest(id))
			}
			checkTimers(t, l, p.behind[len(p.ops)].List()...)
			checkDue(t, l, n, 9, p.due(n, 9)...)
			want, next := p.fires(1, 0, 99, 9)
			checkFires(t, l, [4]int{1, 0, 99, 9}, next, want...)
		}
	}
}
