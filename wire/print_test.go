package wire

import (
	"math"
	"reflect"
	"strings"
	"testing"

	"tompion/api"
)

// known: messages of all kinds, and their bytes ahead of the sum, worked out by hand.
func known() []struct {
	m    api.Msg
	text string
} {
	set := api.Op{Kind: api.OSet, Client: 100, Req: 2, Id: 3, Due: 64, Stamp: 5, Epoch: 1, Cron: "* *"}
	return []struct {
		m    api.Msg
		text string
	}{
		{api.Msg{Kind: api.MBeat, To: 200, From: who(7, 2), Epoch: 3, Flag: true, Seq: 5}, "\x01\x90\x03\x0e\x04\x06\x01\x0a"},
		{api.Msg{Kind: api.MBeat, To: 200, From: who(7, 2), Epoch: 3, Seq: 5}, "\x01\x90\x03\x0e\x04\x06\x00\x0a"},
		{api.Msg{Kind: api.MConfig, To: 1, Conf: chain(300, in(0, 1), fresh(6, 64)), Until: 70}, "\x02\x02\xac\x02\x02\x00\x01\x01\x06\x40\x00\x8c\x01"},
		{api.Msg{Kind: api.MSync, To: 1, From: who(2, 3), Epoch: 4, Seq: 5, Life: 6}, "\x03\x02\x04\x06\x08\x0a\x0c"},
		{api.Msg{Kind: api.MHave, To: 2, From: who(1, 6), Epoch: 4, Seq: 3, Life: 7}, "\x04\x04\x02\x0c\x08\x06\x0e"},
		{api.Msg{Kind: api.MOp, To: 1, From: who(0, 1), Epoch: 2, Seq: 9, Life: 4, Op: set}, "\x05\x02\x00\x02\x04\x12\x08\x01\xc8\x01\x04\x06\x00\x00\x80\x01\x0a\x02\x03* *"},
		{api.Msg{Kind: api.MDone, To: 0, From: who(1, 1), Epoch: 2, Seq: 9, Life: 1}, "\x06\x00\x02\x02\x04\x12\x02"},
		{api.Msg{Kind: api.MAsk, To: 3, From: who(100, 0), Op: api.Op{Kind: api.OFire, Id: 1}}, "\x07\x06\xc8\x01\x00\x03\x00\x00\x02\x00\x00\x00\x00\x00\x00"},
		{api.Msg{Kind: api.MReply, To: 100, Req: 1, Reply: api.Reply{Err: api.ErrFull, Gen: 2, Due: 3}, Seq: 4}, "\x08\xc8\x01\x02\x0a\x04\x06\x08"},
		{api.Msg{Kind: api.MRead, To: 1, From: who(101, 0), Req: 2, Id: 1000}, "\x09\x02\xca\x01\x00\x04\xd0\x0f"},
		{api.Msg{Kind: api.MShow, To: 101, Req: 2, Reply: api.Reply{Gen: 1, Due: 100}, Seq: 8}, "\x0a\xca\x01\x04\x00\x02\xc8\x01\x10"},
		{api.Msg{Kind: api.MWhich, To: 2, From: who(1, 1), Epoch: 3, Life: 4, Req: 5, Client: 100, Id: 7}, "\x0b\x04\x02\x02\x06\x08\x0a\xc8\x01\x0e"},
		{api.Msg{Kind: api.MThis, To: 1, From: who(2, 4), Epoch: 3, Life: 1, Req: 5, Client: 100, Id: 7, Seq: 8}, "\x0c\x02\x04\x08\x06\x02\x0a\xc8\x01\x0e\x10"},
		{api.Msg{Kind: api.MPoll, To: 2, From: who(103, 0), Seq: 63}, "\x0d\x04\xce\x01\x00\x7e"},
		{api.Msg{Kind: api.MFires, To: 100, Seq: 4}, "\x0e\xc8\x01\x08\x00"},
		{api.Msg{Kind: api.MFires, To: 100, Seq: 4, Fires: []api.Fire{{Seq: 1, Client: 2, Id: 3, Gen: 4, Occ: 5, Stamp: 6}, {Seq: -1, Stamp: 64}}}, "\x0e\xc8\x01\x08\x02\x02\x04\x06\x08\x0a\x0c\x01\x00\x00\x00\x00\x80\x01"},
		{api.Msg{Kind: api.MWhere, To: 200, From: who(100, 0)}, "\x0f\x90\x03\xc8\x01\x00"},
		{api.Msg{Kind: api.MWhere, To: -1, From: who(-64, -65)}, "\x0f\x01\x7f\x81\x01"},
	}
}

// P12.1: the bytes of each kind, by hand.
func TestPrintOfKnownMessages(t *testing.T) {
	kinds := map[int]int{}
	for _, c := range known() {
		kinds[c.m.Kind]++
		checkPrint(t, c.m, whole(c.text), api.OK)
		checkRead(t, whole(c.text), c.m, api.OK)
	}
	if len(kinds) != 15 {
		t.Errorf("%d kinds", len(kinds))
	}
}

// P12.1: the document's example, with its sum, of which the highest byte comes first.
func TestPrintOfTheExample(t *testing.T) {
	where := api.Msg{Kind: 15, To: 200, From: who(100, 0)}
	checkPrint(t, where, "\x0f\x90\x03\xc8\x01\x00\x05\x80\x6d\x31", api.OK)
}

// P12.1: the same bytes as are worked out field by field.
func TestPrintOfAllKinds(t *testing.T) {
	for _, m := range rightOnes() {
		checkPrint(t, m, whole(plainText(m)), api.OK)
	}
}

// P12.1: kinds at the edges, and those that are one of the fifteen in their last byte alone.
func TestPrintOfNoKind(t *testing.T) {
	for _, kind := range []int{0, 16, -1, -15, 255, 256, 257, 271, 1<<32 + 15, 1<<40 + 1, math.MinInt, math.MinInt + 1, math.MaxInt} {
		checkWrong(t, api.Msg{Kind: kind})
		checkWrong(t, api.Msg{Kind: kind, To: 200, From: who(100, 0)})
	}
	checkPrint(t, api.Msg{Kind: 1}, whole("\x01\x00\x00\x00\x00\x00\x00"), api.OK)
	checkPrint(t, api.Msg{Kind: 15}, whole("\x0f\x00\x00\x00"), api.OK)
}

// P12.1: each field that the kind doesn't have, alone.
func TestPrintOfFieldsThatAreNotOfTheKind(t *testing.T) {
	zero := api.Msg{Conf: chain(0, api.Seat{}), Fires: make([]api.Fire, 1)}
	for kind := 1; kind <= 15; kind++ {
		for _, l := range leaves(zero) {
			if has(kind, l.name) {
				continue
			}
			for _, m := range []api.Msg{least(kind), full(kind), greatest(kind)} {
				checkStray(t, m, l)
			}
		}
	}
}

// checkStray: the message may be, and may not be with the leaf's value beside its own fields.
func checkStray(t *testing.T, m api.Msg, l leaf) {
	t.Helper()
	checkPrint(t, m, whole(plainText(m)), api.OK)
	if l.name == "Fires" {
		m.Fires = make([]api.Fire, 1)
	}
	if strings.HasPrefix(l.path, ".Conf.Chain") {
		m.Conf.Chain = make([]api.Seat, 1)
	}
	values := []int64{0, 1, -1, 1 << 40, math.MaxInt64, math.MinInt64}
	for _, n := range values {
		v := l.of(&m)
		switch v.Kind() {
		case reflect.Bool:
			v.SetBool(true)
		case reflect.String:
			v.SetString("\x00")
		default:
			// Of a list, its being there is enough.
			if n == 0 && l.name != "Fires" && !strings.HasPrefix(l.path, ".Conf.Chain") {
				continue
			}
			v.SetInt(n)
		}
		checkWrong(t, m)
	}
}

// P12.1: a list of a field that the kind doesn't have is zero if it is empty, nil or not.
func TestPrintOfEmptyLists(t *testing.T) {
	for kind := 1; kind <= 15; kind++ {
		for _, m := range []api.Msg{least(kind), full(kind)} {
			want := whole(plainText(m))
			if len(m.Fires) == 0 {
				m.Fires = []api.Fire{}
				checkPrint(t, m, want, api.OK)
				m.Fires = fires(3)[:0]
				checkPrint(t, m, want, api.OK)
			}
			if len(m.Conf.Chain) == 0 {
				m.Conf.Chain = []api.Seat{}
				checkPrint(t, m, want, api.OK)
				m.Conf.Chain = crowd(8).Chain[:0]
				checkPrint(t, m, want, api.OK)
			}
		}
	}
}

// P12.1: the Op of an MOp and of an MAsk.
func TestPrintOfOps(t *testing.T) {
	for _, kind := range []int{api.MOp, api.MAsk} {
		m := full(kind)
		for _, size := range []int{0, 1, 127, 128, 255, 256} {
			m.Op.Cron = strings.Repeat("\xff", size)
			for m.Op.Kind = 0; m.Op.Kind <= 3; m.Op.Kind++ {
				checkPrint(t, m, whole(plainText(m)), api.OK)
			}
			for _, wrong := range []int{-1, 4, 5, 255, 256, 257, 1 << 32, math.MaxInt, math.MinInt} {
				m.Op.Kind = wrong
				checkWrong(t, m)
			}
		}
		m = full(kind)
		for _, size := range []int{257, 258, 512, 2000, 100000} {
			m.Op.Cron = strings.Repeat("*", size)
			checkWrong(t, m)
		}
	}
}

// wrongChains: none of which is right.
func wrongChains() []api.Config {
	nine := crowd(8)
	nine.Chain = append(nine.Chain, in(0, 1))
	return []api.Config{
		{},
		{Epoch: 1},
		{Epoch: 1, Chain: []api.Seat{}},
		chain(0, in(0, 1)),
		chain(-1, in(0, 1)),
		chain(1<<40+1, in(0, 1)),
		chain(math.MinInt, in(0, 1)),
		chain(math.MaxInt, in(0, 1)),
		chain(1, fresh(0, 1)),
		chain(1, fresh(0, 1), in(1, 1)),
		chain(1, in(0, 0)),
		chain(1, in(0, -1)),
		chain(1, in(0, 1<<40+1)),
		chain(1, in(-1, 1)),
		chain(1, in(8, 1)),
		chain(1, in(0, 1), in(1, 1), in(0, 2)),
		chain(1, in(0, 1), fresh(0, 1)),
		nine,
		chain(1, make([]api.Seat, 100000)...),
	}
}

// P12.1: the Conf of an MConfig is right.
func TestPrintOfConfs(t *testing.T) {
	for seats := 1; seats <= 8; seats++ {
		m := api.Msg{Kind: api.MConfig, To: 7, Conf: crowd(seats), Until: 1}
		checkPrint(t, m, whole(plainText(m)), api.OK)
	}
	for _, c := range wrongChains() {
		checkWrong(t, api.Msg{Kind: api.MConfig, To: 7, Conf: c, Until: 1})
	}
}

// P12.1: at most 8 Fires.
func TestPrintOfFires(t *testing.T) {
	for many := range 9 {
		m := api.Msg{Kind: api.MFires, To: 100, Seq: 9, Fires: fires(many)}
		checkPrint(t, m, whole(plainText(m)), api.OK)
		m.Fires = make([]api.Fire, many)
		checkPrint(t, m, whole(plainText(m)), api.OK)
	}
	for _, many := range []int{9, 10, 16, 256, 257, 264, 100000} {
		checkWrong(t, api.Msg{Kind: api.MFires, To: 100, Seq: 9, Fires: make([]api.Fire, many)})
		checkWrong(t, api.Msg{Kind: api.MFires, Fires: fires(many)})
	}
}

// P12.1: 1024 bytes, the sum among them, are the most.
func TestMostBytes(t *testing.T) {
	for _, size := range []int{0, 1, 1019, 1020} {
		text := strings.Repeat("x", size)
		if s, e := seal(text); s != whole(text) || e != api.OK {
			t.Errorf("of %d bytes: %d, error %d", size, len(s), e)
		}
	}
	for _, size := range []int{1021, 1022, 1024, 1025, 100000} {
		if s, e := seal(strings.Repeat("x", size)); s != "" || e != api.ErrLong {
			t.Errorf("of %d bytes: %d, error %d", size, len(s), e)
		}
	}
}

// P12.1: no message that may be has more than 1024 bytes.
func TestTheLongestOfEachKind(t *testing.T) {
	longest := 0
	for kind := 1; kind <= 15; kind++ {
		m := greatest(kind)
		s, e := Print(m)
		if e != api.OK || len(s) > 1024 {
			t.Errorf("kind %d: %d bytes, error %d", kind, len(s), e)
		}
		longest = max(longest, len(s))
	}
	if want := 1 + 10 + 10 + 1 + 8*6*10 + 4; longest != want {
		t.Errorf("the longest has %d bytes, want %d", longest, want)
	}
}

// P12.1: whatever else is wrong, it is ErrArg, ahead of ErrLong.
func TestPrintWhereSeveralThingsAreWrong(t *testing.T) {
	long := strings.Repeat("*", 5000)
	many := make([]api.Fire, 1000)
	for _, m := range []api.Msg{
		{Kind: 0, Op: api.Op{Cron: long}},
		{Kind: 16, Fires: many},
		{Kind: api.MAsk, Op: api.Op{Kind: 9, Cron: long}},
		{Kind: api.MOp, Op: api.Op{Cron: long}, Fires: many},
		{Kind: api.MOp, Op: api.Op{Kind: -1}, Req: 1},
		{Kind: api.MFires, Fires: many, Conf: chain(1, make([]api.Seat, 1000)...)},
		{Kind: api.MConfig, Conf: chain(1, make([]api.Seat, 1000)...), Fires: many},
		{Kind: api.MConfig, From: who(1, 1)},
		{Kind: api.MWhere, Op: api.Op{Cron: long}},
	} {
		checkWrong(t, m)
	}
}

// P12.1: the greatest and the least int in each field that is a number of any size.
func TestPrintOfNumbersAtTheEdges(t *testing.T) {
	for kind := 1; kind <= 15; kind++ {
		for _, m := range []api.Msg{least(kind), full(kind)} {
			for _, l := range leaves(m) {
				if !l.of(&m).CanInt() || !has(kind, l.name) || l.name == "Conf" || l.name == "Kind" || l.path == ".Op.Kind" {
					continue
				}
				for _, n := range []int64{math.MaxInt64, math.MinInt64, math.MaxInt64 - 1, math.MinInt64 + 1, 1 << 40, -1 << 40, 63, 64, -64, -65, -1, 0} {
					x := bare(m)
					l.of(&x).SetInt(n)
					checkPrint(t, x, whole(plainText(x)), api.OK)
					checkRead(t, whole(plainText(x)), x, api.OK)
				}
			}
		}
	}
}

// P12.1: what it is handed stays as it is, the spare room of its lists too, and so does a second answer.
func TestPrintLeavesWhatItTakes(t *testing.T) {
	for _, m := range append(rightOnes(), api.Msg{Kind: api.MFires, Fires: fires(20)}, api.Msg{Kind: api.MConfig, Conf: chain(0, in(9, 9))}) {
		seats := append(bare(m).Conf.Chain, in(6, 60), fresh(5, 50))
		told := append(bare(m).Fires, api.Fire{Seq: 1}, api.Fire{Id: 2})
		x := m
		x.Conf.Chain = seats[:len(seats)-2]
		x.Fires = told[:len(told)-2]
		before := bare(x)
		s, e := Print(x)
		if !same(x, before) || seats[len(seats)-2] != in(6, 60) || seats[len(seats)-1] != fresh(5, 50) ||
			told[len(told)-2] != (api.Fire{Seq: 1}) || told[len(told)-1] != (api.Fire{Id: 2}) {
			t.Errorf("Print changed %s to %s", short(before), short(x))
		}
		checkPrint(t, x, s, e)
	}
}
