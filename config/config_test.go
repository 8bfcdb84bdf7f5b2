package config

import (
	"math"
	"math/rand"
	"testing"

	"tompion/api"
)

// P11.1: the nodes from 0 on, of the first Life, all Synced, in the first Epoch.
func TestFirst(t *testing.T) {
	var seats []api.Seat
	for nodes := 1; nodes <= 8; nodes++ {
		seats = append(seats, in(nodes-1, 1))
		c, e := First(nodes)
		checkChain(t, "First", c, e, chain(1, seats...), api.OK)
		if !Right(c) {
			t.Errorf("First(%d): %v isn't right", nodes, c)
		}
	}
}

// P11.1: a first chain has 1 to 8 nodes.
func TestFirstOfTooFewOrTooMany(t *testing.T) {
	for _, nodes := range append(numbersAtTheEdges(), 10, 100) {
		if nodes >= 1 && nodes <= 8 {
			continue
		}
		c, e := First(nodes)
		checkChain(t, "First", c, e, api.Config{}, api.ErrArg)
	}
}

// P11.1: what is answered is new memory.
func TestFirstIsNewEachTime(t *testing.T) {
	a, _ := First(3)
	b, _ := First(3)
	a.Chain[1] = fresh(7, 7)
	checkChain(t, "the other one", b, api.OK, chain(1, in(0, 1), in(1, 1), in(2, 1)), api.OK)
}

// P11.1: chains that are right.
func TestRightOnes(t *testing.T) {
	for _, c := range rightOnes() {
		if !Right(c) {
			t.Errorf("Right(%v): false", c)
		}
	}
}

// P11.1: chains that aren't, for one cause each.
func TestWrongOnes(t *testing.T) {
	for name, c := range wrongOnes() {
		if Right(c) {
			t.Errorf("%s: Right(%v): true", name, c)
		}
	}
}

// P11.1: each number at its edges, in each seat of a chain that is right beside it.
func TestRightAtTheEdges(t *testing.T) {
	for _, n := range numbersAtTheEdges() {
		c := chain(n, in(3, 1), fresh(4, 2))
		if Right(c) != (n >= 1 && n <= 1<<40) {
			t.Errorf("Epoch %d: %v", n, Right(c))
		}
		for place := range 3 {
			c := chain(1, in(3, 1), fresh(4, 2), in(5, 3))
			c.Chain[place].M.Node = n
			if Right(c) != plainRight(c) {
				t.Errorf("Node %d of the seat %d: %v", n, place, Right(c))
			}
			c = chain(1, in(3, 1), fresh(4, 2), in(5, 3))
			c.Chain[place].M.Life = n
			if Right(c) != (n >= 1 && n <= 1<<40) {
				t.Errorf("Life %d of the seat %d: %v", n, place, Right(c))
			}
		}
	}
}

// P11.1: a chain has 1 to 8 seats.
func TestRightBySeats(t *testing.T) {
	for n := range 20 {
		c := chain(1)
		for node := range n {
			c.Chain = append(c.Chain, in(node, 1))
		}
		if Right(c) != (n >= 1 && n <= 8) {
			t.Errorf("%d seats: %v", n, Right(c))
		}
	}
}

// P11.1: a node that sits at two places, with one Life or with two, makes any chain wrong.
func TestRightWithANodeTwice(t *testing.T) {
	for size := 2; size <= 8; size++ {
		for first := range size {
			for second := first + 1; second < size; second++ {
				for life := 1; life <= 2; life++ {
					c, _ := First(size)
					c.Chain[second].M = who(c.Chain[first].M.Node, life)
					if Right(c) {
						t.Errorf("Right(%v): true", c)
					}
				}
			}
		}
	}
}

// P11.1: of the seats that are Synced, the first one counts alone.
func TestRightByWhoIsSynced(t *testing.T) {
	for bits := range 1 << 8 {
		c, _ := First(8)
		for place := range c.Chain {
			c.Chain[place].Synced = bits>>place&1 == 1
		}
		if Right(c) != (bits%2 == 1) {
			t.Errorf("Right(%v): %v", c, Right(c))
		}
	}
}

// P11.1: any chains, of which some are right.
func TestRightOfAnyOnes(t *testing.T) {
	r := rand.New(rand.NewSource(1))
	right := 0
	for range 100000 {
		c := api.Config{Epoch: r.Intn(20)}
		for range r.Intn(5) {
			c.Chain = append(c.Chain, api.Seat{M: who(r.Intn(40)-1, r.Intn(20)), Synced: r.Intn(3) > 0})
			c.Chain[len(c.Chain)-1].M.Node %= 9
		}
		if Right(c) != plainRight(c) {
			t.Fatalf("Right(%v): %v", c, Right(c))
		}
		if Right(c) {
			right++
		}
	}
	if right < 10000 {
		t.Errorf("only %d were right", right)
	}
}

// checkAround: a member's place, and who sits beside it; of those that don't sit there, the zero one.
func checkAround(t *testing.T, c api.Config, m api.Member, place int, ahead, next api.Member, isAhead, isNext bool) {
	t.Helper()
	if got := Place(c, m); got != place {
		t.Errorf("Place(%v, %v): %d, want %d", c, m, got, place)
	}
	if got, ok := Ahead(c, m); got != ahead || ok != isAhead {
		t.Errorf("Ahead(%v, %v): %v, %v, want %v, %v", c, m, got, ok, ahead, isAhead)
	}
	if got, ok := Next(c, m); got != next || ok != isNext {
		t.Errorf("Next(%v, %v): %v, %v, want %v, %v", c, m, got, ok, next, isNext)
	}
}

// P11.1: the first one, one in the middle, the last one, and who has no seat.
func TestPlaceAheadAndNext(t *testing.T) {
	none := api.Member{}
	c := chain(4, in(5, 2), fresh(0, 1), in(7, 1<<40), fresh(1, 3))
	checkAround(t, c, who(5, 2), 0, none, who(0, 1), false, true)
	checkAround(t, c, who(0, 1), 1, who(5, 2), who(7, 1<<40), true, true)
	checkAround(t, c, who(7, 1<<40), 2, who(0, 1), who(1, 3), true, true)
	checkAround(t, c, who(1, 3), 3, who(7, 1<<40), none, true, false)
	for _, m := range []api.Member{{}, who(5, 1), who(5, 3), who(0, 2), who(0, 0), who(1, 2), who(1, 4), who(7, 1), who(2, 1), who(-1, 1), who(8, 1), who(math.MaxInt, math.MaxInt), who(math.MinInt, math.MinInt), who(1<<32, 1), who(5, 1<<32+2)} {
		checkAround(t, c, m, -1, none, none, false, false)
	}
	checkAround(t, chain(1, in(3, 1)), who(3, 1), 0, none, none, false, false)
	for _, m := range someMembers(api.Config{}) {
		checkAround(t, api.Config{}, m, -1, none, none, false, false)
		checkAround(t, api.Config{Epoch: 1, Chain: []api.Seat{}}, m, -1, none, none, false, false)
	}
}

// P11.1: whether the chain is right doesn't matter to who sits where.
func TestPlaceAheadAndNextInChainsThatAreNotRight(t *testing.T) {
	none := api.Member{}
	c := chain(-3, fresh(-1, 0), fresh(0, 0), fresh(math.MaxInt, math.MinInt))
	checkAround(t, c, who(-1, 0), 0, none, none, false, true)
	checkAround(t, c, none, 1, who(-1, 0), who(math.MaxInt, math.MinInt), true, true)
	checkAround(t, c, who(math.MaxInt, math.MinInt), 2, none, none, true, false)
	nine := wrongOnes()["nine nodes"]
	checkAround(t, nine, who(8, 1), 8, who(7, 1), none, true, false)
	checkAround(t, nine, who(7, 1), 7, who(6, 1), who(8, 1), true, true)
	for name, c := range wrongOnes() {
		for _, m := range someMembers(c) {
			if place := Place(c, m); place >= 0 && c.Chain[place].M != m {
				t.Errorf("%s: Place(%v, %v): %d", name, c, m, place)
			}
			Ahead(c, m)
			Next(c, m)
		}
	}
}

// P11.1: each member of any chain.
func TestPlaceAheadAndNextOfAnyOnes(t *testing.T) {
	r := rand.New(rand.NewSource(2))
	for range 5000 {
		c := anyChain(r, 8)
		row := []api.Member{{}} // nobody at either end
		for _, seat := range c.Chain {
			row = append(row, seat.M)
		}
		row = append(row, api.Member{})
		size := len(c.Chain)
		for place, seat := range c.Chain {
			checkAround(t, c, seat.M, place, row[place], row[place+2], place > 0, place < size-1)
			checkAround(t, c, who(seat.M.Node, seat.M.Life+1), -1, api.Member{}, api.Member{}, false, false)
		}
	}
}

func checkEnds(t *testing.T, c api.Config, head, tail api.Member, ok bool) {
	t.Helper()
	if got, is := Head(c); got != head || is != ok {
		t.Errorf("Head(%v): %v, %v, want %v, %v", c, got, is, head, ok)
	}
	if got, is := Tail(c); got != tail || is != ok {
		t.Errorf("Tail(%v): %v, %v, want %v, %v", c, got, is, tail, ok)
	}
}

// P11.1: the ends of no seats, of one, and of several, the chain right or not.
func TestHeadAndTail(t *testing.T) {
	checkEnds(t, api.Config{}, api.Member{}, api.Member{}, false)
	checkEnds(t, chain(7), api.Member{}, api.Member{}, false)
	checkEnds(t, api.Config{Epoch: 1, Chain: []api.Seat{}}, api.Member{}, api.Member{}, false)
	checkEnds(t, chain(1, in(4, 9)), who(4, 9), who(4, 9), true)
	checkEnds(t, chain(1, in(4, 9), fresh(2, 1)), who(4, 9), who(2, 1), true)
	checkEnds(t, chain(1, in(4, 9), fresh(2, 1), in(0, 3)), who(4, 9), who(0, 3), true)
	for name, c := range wrongOnes() {
		if n := len(c.Chain); n > 0 {
			checkEnds(t, c, c.Chain[0].M, c.Chain[n-1].M, true)
		} else if _, ok := Head(c); ok {
			t.Errorf("%s: Head(%v) of no seats", name, c)
		}
	}
	for _, c := range rightOnes() {
		checkEnds(t, c, c.Chain[0].M, c.Chain[len(c.Chain)-1].M, true)
	}
}
