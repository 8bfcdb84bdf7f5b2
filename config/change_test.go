package config

import (
	"math/rand"
	"slices"
	"testing"

	"tompion/api"
)

func checkWithout(t *testing.T, c api.Config, want api.Config, wantE api.Errno, gone ...api.Member) {
	t.Helper()
	d, e := Without(c, gone...)
	if !same(d, want) || e != wantE {
		t.Errorf("Without(%v, %v): %v, %d, want %v, %d", c, gone, d, e, want, wantE)
	}
}

func checkJoin(t *testing.T, c api.Config, m api.Member, want api.Config, wantE api.Errno) {
	t.Helper()
	d, e := Join(c, m)
	if !same(d, want) || e != wantE {
		t.Errorf("Join(%v, %v): %v, %d, want %v, %d", c, m, d, e, want, wantE)
	}
}

func checkSynced(t *testing.T, c api.Config, m api.Member, want api.Config, wantE api.Errno) {
	t.Helper()
	d, e := Synced(c, m)
	if !same(d, want) || e != wantE {
		t.Errorf("Synced(%v, %v): %v, %d, want %v, %d", c, m, d, e, want, wantE)
	}
}

// P11.2: the document's row of changes.
func TestExamples(t *testing.T) {
	c, _ := First(2)
	c, e := Without(c, who(0, 1))
	checkChain(t, "Without", c, e, chain(2, in(1, 1)), api.OK)
	c, e = Join(c, who(0, 2))
	checkChain(t, "Join", c, e, chain(3, in(1, 1), fresh(0, 2)), api.OK)
	checkWithout(t, c, api.Config{}, api.ErrState, who(1, 1))
	c, e = Synced(c, who(0, 2))
	checkChain(t, "Synced", c, e, chain(3, in(1, 1), in(0, 2)), api.OK)
	checkWithout(t, c, chain(4, in(0, 2)), api.OK, who(1, 1))
}

// P11.2: who goes, and who is left.
func TestWithout(t *testing.T) {
	c := chain(5, in(3, 1), in(0, 2), fresh(7, 9), in(1, 1))
	for _, row := range []struct {
		gone []api.Member
		want []api.Seat
		e    api.Errno
	}{
		{nil, nil, api.ErrNone},
		{[]api.Member{{}}, nil, api.ErrNone},
		{[]api.Member{who(2, 1)}, nil, api.ErrNone},
		{[]api.Member{who(3, 2), who(0, 1), who(7, 1), who(1, 1<<40)}, nil, api.ErrNone},
		{[]api.Member{who(-1, 0), who(8, 1<<40+1)}, nil, api.ErrNone},
		{[]api.Member{who(3, 1)}, []api.Seat{in(0, 2), fresh(7, 9), in(1, 1)}, api.OK},
		{[]api.Member{who(0, 2)}, []api.Seat{in(3, 1), fresh(7, 9), in(1, 1)}, api.OK},
		{[]api.Member{who(7, 9)}, []api.Seat{in(3, 1), in(0, 2), in(1, 1)}, api.OK},
		{[]api.Member{who(1, 1)}, []api.Seat{in(3, 1), in(0, 2), fresh(7, 9)}, api.OK},
		{[]api.Member{who(1, 1), who(0, 2)}, []api.Seat{in(3, 1), fresh(7, 9)}, api.OK},
		{[]api.Member{who(0, 2), who(0, 2), who(0, 2)}, []api.Seat{in(3, 1), fresh(7, 9), in(1, 1)}, api.OK},
		{[]api.Member{who(2, 2), who(3, 1), who(0, 1)}, []api.Seat{in(0, 2), fresh(7, 9), in(1, 1)}, api.OK},
		{[]api.Member{who(3, 1), who(0, 2)}, nil, api.ErrState},
		{[]api.Member{who(0, 2), who(1, 1), who(3, 1), who(0, 2)}, nil, api.ErrState},
		{[]api.Member{who(7, 9), who(0, 2), who(3, 1)}, []api.Seat{in(1, 1)}, api.OK},
		{[]api.Member{who(1, 1), who(7, 9), who(0, 2), who(3, 1)}, nil, api.ErrState},
		{[]api.Member{who(1, 1), who(7, 9), who(0, 2), who(3, 1), who(4, 4)}, nil, api.ErrState},
	} {
		want := api.Config{}
		if row.e == api.OK {
			want = chain(6, row.want...)
		}
		checkWithout(t, c, want, row.e, row.gone...)
	}
	checkWithout(t, chain(1, in(2, 1)), api.Config{}, api.ErrState, who(2, 1))
	checkWithout(t, chain(1, in(2, 1)), api.Config{}, api.ErrNone, who(2, 2))
}

// P11.2: each set of those who sit, from the front and from the back, with others and without.
func TestWithoutEachSet(t *testing.T) {
	r := rand.New(rand.NewSource(3))
	for range 300 {
		c := anyChain(r, 6)
		for bits := range 1 << len(c.Chain) {
			var gone []api.Member
			for place, seat := range c.Chain {
				if bits>>place&1 == 1 {
					gone = append(gone, seat.M)
				}
			}
			checkAllOrders(t, c, gone)
			for _, m := range someMembers(c)[:4] {
				checkAllOrders(t, c, append([]api.Member{m}, gone...))
			}
		}
	}
}

// checkAllOrders: in whichever order those are named who go, and however often, the same is left.
func checkAllOrders(t *testing.T, c api.Config, gone []api.Member) {
	t.Helper()
	want, e := plainWithout(c, gone)
	checkWithout(t, c, want, e, gone...)
	turned := slices.Clone(gone)
	slices.Reverse(turned)
	checkWithout(t, c, want, e, turned...)
	checkWithout(t, c, want, e, append(turned, gone...)...)
}

// P11.2: many who go, few of whom sit.
func TestWithoutMany(t *testing.T) {
	var gone []api.Member
	for n := range 100000 {
		gone = append(gone, who(n%9, 2+n))
	}
	c := chain(1, in(0, 1), in(1, 1), in(5, 50000-50000%9+5+2))
	checkWithout(t, c, chain(2, in(0, 1), in(1, 1)), api.OK, gone...)
	checkWithout(t, c, chain(2, in(0, 1), in(1, 1)), api.OK, append(gone, gone...)...)
}

// P11.2: one more sits at the end, and isn't Synced.
func TestJoin(t *testing.T) {
	checkJoin(t, chain(1, in(0, 1)), who(1, 1), chain(2, in(0, 1), fresh(1, 1)), api.OK)
	checkJoin(t, chain(2, in(7, 3)), who(0, 1<<40), chain(3, in(7, 3), fresh(0, 1<<40)), api.OK)
	checkJoin(t, chain(9, in(0, 1), fresh(1, 1)), who(7, 5), chain(10, in(0, 1), fresh(1, 1), fresh(7, 5)), api.OK)
	c := chain(1, in(5, 1))
	for i, node := range []int{0, 7, 3, 1, 6, 2, 4} {
		want := chain(2+i, append(slices.Clone(c.Chain), fresh(node, 8))...)
		d, e := Join(c, who(node, 8))
		checkChain(t, "Join", d, e, want, api.OK)
		c = d
	}
	for node := range 8 {
		for life := 1; life <= 9; life++ {
			checkJoin(t, c, who(node, life), api.Config{}, api.ErrOnce)
		}
	}
}

// P11.2: a node that sits can't sit twice, with the same Life or with another one.
func TestJoinOfANodeThatSits(t *testing.T) {
	c := chain(3, in(2, 4), fresh(6, 1), in(0, 1<<40))
	for _, node := range []int{2, 6, 0} {
		for _, life := range []int{1, 2, 3, 4, 5, 1<<40 - 1, 1 << 40} {
			checkJoin(t, c, who(node, life), api.Config{}, api.ErrOnce)
		}
	}
}

// P11.2: members that may not be, whoever sits.
func TestJoinOfMembersThatMayNotBe(t *testing.T) {
	full := chain(2, in(0, 1), in(1, 1), in(2, 1), in(3, 1), in(4, 1), in(5, 1), in(6, 1), in(7, 1))
	for _, c := range []api.Config{chain(1, in(5, 1)), chain(1<<40, in(5, 1)), full} {
		for _, n := range numbersAtTheEdges() {
			if n < 0 || n > 7 {
				checkJoin(t, c, who(n, 1), api.Config{}, api.ErrArg)
			}
			if n < 1 || n > 1<<40 {
				checkJoin(t, c, who(6, n), api.Config{}, api.ErrArg)
				checkJoin(t, c, who(5, n), api.Config{}, api.ErrArg)
			} else if len(c.Chain) == 1 && c.Epoch == 1 {
				checkJoin(t, c, who(6, n), chain(2, in(5, 1), fresh(6, n)), api.OK)
			}
		}
	}
}

// P11.2: each seat that isn't Synced can be, and the Epoch stays.
func TestSynced(t *testing.T) {
	c := chain(7, in(3, 1), fresh(0, 2), in(1, 5), fresh(7, 1<<40))
	checkSynced(t, c, who(0, 2), chain(7, in(3, 1), in(0, 2), in(1, 5), fresh(7, 1<<40)), api.OK)
	checkSynced(t, c, who(7, 1<<40), chain(7, in(3, 1), fresh(0, 2), in(1, 5), in(7, 1<<40)), api.OK)
	checkSynced(t, c, who(3, 1), api.Config{}, api.ErrOnce)
	checkSynced(t, c, who(1, 5), api.Config{}, api.ErrOnce)
	for _, m := range []api.Member{{}, who(3, 2), who(0, 1), who(0, 3), who(0, 0), who(1, 4), who(7, 1), who(2, 2), who(-1, 2), who(8, 2), who(1<<32, 2), who(0, 1<<32+2)} {
		checkSynced(t, c, m, api.Config{}, api.ErrNone)
	}
	checkSynced(t, chain(1<<40, in(0, 1), fresh(1, 1)), who(1, 1), chain(1<<40, in(0, 1), in(1, 1)), api.OK)
}

// P11.2: each seat of any chain.
func TestSyncedOfAnyOnes(t *testing.T) {
	r := rand.New(rand.NewSource(4))
	for range 3000 {
		c := anyChain(r, 8)
		for place, seat := range c.Chain {
			want, e := api.Config{}, api.ErrOnce
			if !seat.Synced {
				want, e = copied(c), api.OK
				want.Chain[place].Synced = true
			}
			checkSynced(t, c, seat.M, want, e)
			checkSynced(t, c, who(seat.M.Node, seat.M.Life+1), api.Config{}, api.ErrNone)
		}
	}
}

// P11.2: at the last Epoch nothing comes that needs one more, but whatever else is wrong is told ahead of it.
func TestTheLastEpoch(t *testing.T) {
	last := chain(1<<40, in(0, 1), fresh(1, 1), in(2, 1))
	checkWithout(t, last, api.Config{}, api.ErrFull, who(1, 1))
	checkWithout(t, last, api.Config{}, api.ErrFull, who(2, 1), who(1, 1))
	checkWithout(t, last, api.Config{}, api.ErrNone)
	checkWithout(t, last, api.Config{}, api.ErrNone, who(1, 2))
	checkWithout(t, last, api.Config{}, api.ErrState, who(0, 1))
	checkWithout(t, last, api.Config{}, api.ErrState, who(0, 1), who(1, 1), who(2, 1))
	checkJoin(t, last, who(3, 1), api.Config{}, api.ErrFull)
	checkJoin(t, last, who(1, 2), api.Config{}, api.ErrOnce)
	checkJoin(t, last, who(3, 0), api.Config{}, api.ErrArg)
	checkJoin(t, last, who(1, 1<<40+1), api.Config{}, api.ErrArg)
	checkSynced(t, last, who(1, 1), chain(1<<40, in(0, 1), in(1, 1), in(2, 1)), api.OK)
	checkSynced(t, last, who(2, 1), api.Config{}, api.ErrOnce)
	checkSynced(t, last, who(3, 1), api.Config{}, api.ErrNone)
	ahead := chain(1<<40-1, last.Chain...)
	checkWithout(t, ahead, chain(1<<40, in(0, 1), in(2, 1)), api.OK, who(1, 1))
	checkJoin(t, ahead, who(3, 1), chain(1<<40, in(0, 1), fresh(1, 1), in(2, 1), fresh(3, 1)), api.OK)
}

// P11.2: a chain that isn't right has none behind it, whatever else is wrong.
func TestChangesOfChainsThatAreNotRight(t *testing.T) {
	for name, c := range wrongOnes() {
		for _, m := range someMembers(c) {
			d, e := Without(c, m)
			checkChain(t, name+": Without", d, e, api.Config{}, api.ErrForm)
			d, e = Join(c, m)
			checkChain(t, name+": Join", d, e, api.Config{}, api.ErrForm)
			d, e = Synced(c, m)
			checkChain(t, name+": Synced", d, e, api.Config{}, api.ErrForm)
		}
		d, e := Without(c)
		checkChain(t, name+": Without nobody", d, e, api.Config{}, api.ErrForm)
		d, e = Without(c, someMembers(c)...)
		checkChain(t, name+": Without all", d, e, api.Config{}, api.ErrForm)
	}
}

// withRoom: the chain in the front of a longer list of seats, and that list.
func withRoom(c api.Config) (api.Config, []api.Seat) {
	whole := append(slices.Clone(c.Chain), in(6, 66), fresh(7, 77), in(5, 55))
	c.Chain = whole[:len(c.Chain)]
	return c, whole
}

// checkChange: what was handed in stays, its spare room too, and what is answered shares nothing with it.
func checkChange(t *testing.T, what string, c api.Config, change func(api.Config) (api.Config, api.Errno)) {
	t.Helper()
	c, whole := withRoom(c)
	was := slices.Clone(whole)
	d, e := change(c)
	if !slices.Equal(whole, was) {
		t.Fatalf("%s: the seats handed in are %v, were %v", what, whole, was)
	}
	answer := copied(d)
	for i := range whole {
		whole[i] = fresh(-9, -9)
	}
	checkChain(t, what+": with other seats handed in", d, e, answer, api.OK)
	copy(whole, was)
	seats := d.Chain[:cap(d.Chain)]
	for i := range seats {
		seats[i] = in(-8, -8)
	}
	if !slices.Equal(whole, was) {
		t.Fatalf("%s: the seats handed in share what is answered: %v", what, whole)
	}
	again, e := change(c)
	checkChain(t, what+": once more", again, e, answer, api.OK)
}

// P11.2: no change touches what was handed in, nor keeps any of it.
func TestChangesShareNoMemory(t *testing.T) {
	c := chain(3, in(0, 1), fresh(1, 1), in(2, 1), in(3, 1))
	gone := [][]api.Member{{who(0, 1), who(1, 1)}, {who(3, 1)}, {who(2, 1), who(3, 1)}, {who(1, 1)}, {who(0, 1), who(1, 1), who(2, 1)}, {who(1, 1), who(2, 1), who(3, 1)}}
	for _, row := range gone {
		kept := slices.Clone(row)
		checkChange(t, "Without", c, func(c api.Config) (api.Config, api.Errno) { return Without(c, row...) })
		if !slices.Equal(row, kept) {
			t.Errorf("Without: who goes is %v, was %v", row, kept)
		}
	}
	checkChange(t, "Join", c, func(c api.Config) (api.Config, api.Errno) { return Join(c, who(4, 1)) })
	checkChange(t, "Synced", c, func(c api.Config) (api.Config, api.Errno) { return Synced(c, who(1, 1)) })
}

// P11.2: who goes stays as it was handed in, with its spare room.
func TestWithoutKeepsWhoGoes(t *testing.T) {
	whole := []api.Member{who(2, 1), who(9, 9), who(0, 1), who(2, 1), who(7, 7), who(6, 6)}
	was := slices.Clone(whole)
	checkWithout(t, chain(1, in(0, 1), in(1, 1), in(2, 1)), chain(2, in(1, 1)), api.OK, whole[:4]...)
	if !slices.Equal(whole, was) {
		t.Errorf("who goes: %v, was %v", whole, was)
	}
}
