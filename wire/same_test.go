package wire

import (
	"math"
	"testing"

	"tompion/api"
)

// P12.1: a message and itself, of the same memory and of other memory, right or not.
func TestSameOfTheSame(t *testing.T) {
	list := append(rightOnes(), api.Msg{}, everything(9), api.Msg{Kind: -1, Conf: chain(0, in(9, 9)), Fires: fires(20)})
	for i, a := range list {
		checkSame(t, a, a, true)
		checkSame(t, a, bare(a), true)
		for k, b := range list {
			if i != k {
				checkSame(t, a, b, same(a, b))
			}
		}
	}
}

// P12.1: messages that differ in one field alone, also inside of Op, of Reply, of a seat and of a fire.
func TestSameOfOneFieldThatDiffers(t *testing.T) {
	for _, m := range []api.Msg{everything(9), {Conf: chain(0, api.Seat{}), Fires: make([]api.Fire, 1)}} {
		list := leaves(m)
		if want := 2 + 2 + 6 + 1 + 10 + 3 + 1 + 3*len(m.Conf.Chain) + 6*len(m.Fires) + 1; len(list) != want {
			t.Fatalf("%d leaves, want %d", len(list), want)
		}
		for _, l := range list {
			x := bare(m)
			alter(l.of(&x))
			checkSame(t, m, x, false)
			if v := l.of(&x); v.CanInt() {
				for _, n := range []int64{math.MaxInt64, math.MinInt64, 1 << 32, -1} {
					v.SetInt(n + l.of(&m).Int())
					checkSame(t, m, x, false)
				}
			}
		}
	}
}

// P12.1: lists of unlike length, or of another order.
func TestSameOfLists(t *testing.T) {
	for i := range 9 {
		for k := range 9 {
			a, b := api.Msg{Fires: fires(8)[:i]}, api.Msg{Fires: fires(8)[:k]}
			checkSame(t, a, b, i == k)
			a, b = api.Msg{Conf: chain(1, crowd(8).Chain[:i]...)}, api.Msg{Conf: chain(1, crowd(8).Chain[:k]...)}
			checkSame(t, a, b, i == k)
			a, b = api.Msg{Fires: make([]api.Fire, i)}, api.Msg{Fires: make([]api.Fire, k)}
			checkSame(t, a, b, i == k)
		}
	}
	checkSame(t, api.Msg{Conf: chain(1, in(0, 1), in(1, 1))}, api.Msg{Conf: chain(1, in(1, 1), in(0, 1))}, false)
	checkSame(t, api.Msg{Fires: []api.Fire{{Id: 1}, {Id: 2}}}, api.Msg{Fires: []api.Fire{{Id: 2}, {Id: 1}}}, false)
	checkSame(t, api.Msg{Fires: fires(1)}, api.Msg{Conf: chain(0, api.Seat{})}, false)
}

// P12.1: a nil list and an empty one.
func TestSameOfEmptyLists(t *testing.T) {
	for _, m := range []api.Msg{{}, {Kind: api.MFires, Seq: 1}, {Kind: api.MWhere, To: 200}} {
		x := m
		x.Fires = []api.Fire{}
		checkSame(t, m, x, true)
		x.Conf.Chain = []api.Seat{}
		checkSame(t, m, x, true)
		x.Fires = fires(5)[:0]
		x.Conf.Chain = crowd(5).Chain[:0]
		checkSame(t, m, x, true)
	}
}

// P12.1: what Same is handed stays as it is.
func TestSameLeavesWhatItTakes(t *testing.T) {
	a, b := everything(9), everything(9)
	b.Fires[1].Id = 99
	before, other := bare(a), bare(b)
	Same(a, b)
	if !same(a, before) || !same(b, other) {
		t.Errorf("changed: %s, %s", short(a), short(b))
	}
}
