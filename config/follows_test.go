package config

import (
	"fmt"
	"math/rand"
	"slices"
	"testing"

	"tompion/api"
)

func checkFollows(t *testing.T, a, b api.Config, want bool) {
	t.Helper()
	if Follows(a, b) != want {
		t.Errorf("Follows(%v, %v): %v", a, b, !want)
	}
}

// P11.4: each way in which a chain may come behind another one, and its neighbours that may not.
func TestFollows(t *testing.T) {
	a := chain(5, in(0, 1), fresh(1, 2), in(2, 1), fresh(3, 1))
	for _, row := range []struct {
		what string
		b    api.Config
		want bool
	}{
		{"itself", copied(a), true},
		{"the second one Synced", chain(5, in(0, 1), in(1, 2), in(2, 1), fresh(3, 1)), true},
		{"the last one Synced", chain(5, in(0, 1), fresh(1, 2), in(2, 1), in(3, 1)), true},
		{"two Synced", chain(5, in(0, 1), in(1, 2), in(2, 1), in(3, 1)), false},
		{"one Synced less", chain(5, in(0, 1), fresh(1, 2), fresh(2, 1), fresh(3, 1)), false},
		{"one Synced more, and one less", chain(5, in(0, 1), in(1, 2), fresh(2, 1), fresh(3, 1)), false},
		{"one Synced, an Epoch more", chain(6, in(0, 1), in(1, 2), in(2, 1), fresh(3, 1)), false},
		{"one Synced less, an Epoch more", chain(6, in(0, 1), fresh(1, 2), fresh(2, 1), fresh(3, 1)), false},
		{"one Synced, another one's Life changed", chain(5, in(0, 2), in(1, 2), in(2, 1), fresh(3, 1)), false},
		{"one Synced, of another Life", chain(5, in(0, 1), in(1, 3), in(2, 1), fresh(3, 1)), false},
		{"one Synced, of another node", chain(5, in(0, 1), in(4, 2), in(2, 1), fresh(3, 1)), false},
		{"itself, an Epoch more", chain(6, a.Chain...), true},
		{"itself, an Epoch less", chain(4, a.Chain...), false},
		{"itself, two Epochs more", chain(7, a.Chain...), false},
		{"itself, 2^32 Epochs more", chain(5+1<<32, a.Chain...), false},
		{"itself, 2^32 Epochs and one more", chain(6+1<<32, a.Chain...), false},
		{"itself, 256 Epochs and one more", chain(262, a.Chain...), false},
		{"the last one left out, the Epoch the same", chain(5, in(0, 1), fresh(1, 2), in(2, 1)), false},
		{"the last one left out", chain(6, in(0, 1), fresh(1, 2), in(2, 1)), true},
		{"one in the middle left out", chain(6, in(0, 1), in(2, 1), fresh(3, 1)), true},
		{"two in the middle left out", chain(6, in(0, 1), fresh(3, 1)), true},
		{"the first two left out", chain(6, in(2, 1), fresh(3, 1)), true},
		{"all but one left out", chain(6, in(2, 1)), true},
		{"the first one left out, the second one isn't Synced", chain(6, fresh(1, 2), in(2, 1), fresh(3, 1)), false},
		{"the first one left out, the second one Synced for it", chain(6, in(1, 2), in(2, 1), fresh(3, 1)), false},
		{"all left out", chain(6), false},
		{"one left out, two Epochs more", chain(7, in(0, 1), fresh(1, 2), in(2, 1)), false},
		{"one left out, another one Synced", chain(6, in(0, 1), in(1, 2), in(2, 1)), false},
		{"one left out, another one Synced less", chain(6, in(0, 1), fresh(1, 2), fresh(2, 1)), false},
		{"another order", chain(6, in(2, 1), fresh(1, 2), in(0, 1), fresh(3, 1)), false},
		{"another order of the last two", chain(6, in(0, 1), fresh(1, 2), fresh(3, 1), in(2, 1)), false},
		{"another order, the Epoch the same", chain(5, in(2, 1), fresh(1, 2), in(0, 1), fresh(3, 1)), false},
		{"another order, and some left out", chain(6, in(2, 1), in(0, 1)), false},
		{"one more", chain(6, append(slices.Clone(a.Chain), fresh(4, 1))...), true},
		{"one more, of the last Life", chain(6, append(slices.Clone(a.Chain), fresh(7, 1<<40))...), true},
		{"one more, the Epoch the same", chain(5, append(slices.Clone(a.Chain), fresh(4, 1))...), false},
		{"one more, two Epochs more", chain(7, append(slices.Clone(a.Chain), fresh(4, 1))...), false},
		{"one more that is Synced", chain(6, append(slices.Clone(a.Chain), in(4, 1))...), false},
		{"two more", chain(6, append(slices.Clone(a.Chain), fresh(4, 1), fresh(5, 1))...), false},
		{"one more, of a node that sits", chain(6, append(slices.Clone(a.Chain), fresh(3, 2))...), false},
		{"one more in the middle", chain(6, in(0, 1), fresh(1, 2), fresh(4, 1), in(2, 1), fresh(3, 1)), false},
		{"one more ahead", chain(6, in(4, 1), in(0, 1), fresh(1, 2), in(2, 1), fresh(3, 1)), false},
		{"one more, another one Synced", chain(6, in(0, 1), in(1, 2), in(2, 1), fresh(3, 1), fresh(4, 1)), false},
		{"one more, and one left out", chain(6, in(0, 1), fresh(1, 2), in(2, 1), fresh(4, 1)), false},
		{"one more, and the first one left out", chain(6, in(2, 1), fresh(3, 1), fresh(4, 1)), false},
		{"a new Life for one left out", chain(6, in(0, 1), in(2, 1), fresh(3, 1), fresh(1, 3)), false},
		{"a new Life in its place", chain(6, in(0, 1), fresh(1, 3), in(2, 1), fresh(3, 1)), false},
	} {
		if Follows(a, row.b) != row.want {
			t.Errorf("%s: Follows(%v, %v): %v", row.what, a, row.b, !row.want)
		}
	}
}

// P11.4: no chain follows one of which nothing is left.
func TestFollowsOfOneSeat(t *testing.T) {
	a := chain(5, in(0, 1))
	checkFollows(t, a, chain(5, in(0, 1)), true)
	checkFollows(t, a, chain(6, in(0, 1)), true)
	checkFollows(t, a, chain(6, in(0, 1), fresh(1, 1)), true)
	checkFollows(t, a, chain(6, in(0, 1), in(1, 1)), false)
	checkFollows(t, a, chain(5, in(1, 1)), false)
	checkFollows(t, a, chain(6, in(1, 1)), false)
	checkFollows(t, a, chain(6, in(0, 2)), false)
	checkFollows(t, a, chain(6, fresh(0, 1)), false)
}

// P11.4: a chain of all nodes, and the Epochs at the end.
func TestFollowsAtTheEdges(t *testing.T) {
	full, _ := First(8)
	seven := chain(1, full.Chain[:7]...)
	checkFollows(t, full, full, true)
	checkFollows(t, full, chain(2, full.Chain[3:]...), true)
	checkFollows(t, full, chain(2, full.Chain...), true)
	checkFollows(t, full, chain(2, append(slices.Clone(full.Chain), fresh(7, 2))...), false)
	checkFollows(t, full, chain(2, append(slices.Clone(full.Chain), fresh(8, 1))...), false)
	checkFollows(t, seven, chain(2, append(slices.Clone(seven.Chain), fresh(7, 2))...), true)
	checkFollows(t, seven, chain(2, append(slices.Clone(seven.Chain), fresh(6, 2))...), false)
	last := chain(1<<40, in(0, 1), fresh(1, 1))
	checkFollows(t, last, last, true)
	checkFollows(t, last, chain(1<<40, in(0, 1), in(1, 1)), true)
	checkFollows(t, last, chain(1<<40+1, last.Chain...), false)
	checkFollows(t, last, chain(1<<40+1, in(0, 1)), false)
	checkFollows(t, chain(1<<40-1, last.Chain...), chain(1<<40, in(0, 1)), true)
	checkFollows(t, chain(1<<40-1, last.Chain...), chain(1<<40, in(0, 1), fresh(1, 1), fresh(2, 1)), true)
	checkFollows(t, chain(1, last.Chain...), last, false)
}

// P11.4: of two chains of which one isn't right, neither follows the other one.
func TestFollowsOfWrongOnes(t *testing.T) {
	for name, c := range wrongOnes() {
		if Follows(c, c) {
			t.Errorf("%s: Follows(%v, itself)", name, c)
		}
		later := api.Config{Epoch: c.Epoch + 1, Chain: c.Chain}
		if Follows(c, later) {
			t.Errorf("%s: Follows(%v, %v)", name, c, later)
		}
		for _, right := range rightOnes() {
			if Follows(c, right) || Follows(right, c) {
				t.Errorf("%s: of %v and %v one follows the other one", name, c, right)
			}
			beside := chain(c.Epoch, right.Chain...)
			if plainRight(beside) {
				continue
			}
			if Follows(beside, right) || Follows(right, beside) || Follows(beside, beside) {
				t.Errorf("%s: of %v and %v one follows the other one", name, beside, right)
			}
		}
	}
	checkFollows(t, chain(0, in(0, 1)), chain(1, in(0, 1)), false)
	checkFollows(t, chain(1, in(0, 1), in(8, 1)), chain(2, in(0, 1)), false)
	checkFollows(t, chain(1, in(0, 1)), chain(2, in(0, 1), fresh(8, 1)), false)
	checkFollows(t, chain(1, fresh(0, 1)), chain(1, in(0, 1)), false)
	checkFollows(t, chain(1, fresh(0, 1), in(1, 1)), chain(2, in(1, 1)), false)
}

// followers: each chain of three nodes that may come behind a, made one by one.
func followers(a api.Config) map[string]int {
	set := map[string]int{}
	put := func(b api.Config) {
		if plainRight(b) {
			set[fmt.Sprint(b)] = 1
		}
	}
	put(a)
	for place := range a.Chain {
		b := copied(a)
		b.Chain[place].Synced = true
		put(b)
	}
	for bits := range 1 << len(a.Chain) {
		b := api.Config{Epoch: a.Epoch + 1}
		for place, seat := range a.Chain {
			if bits>>place&1 == 0 {
				b.Chain = append(b.Chain, seat)
			}
		}
		put(b)
	}
	for i := range 3 * 2 {
		b := copied(a)
		b.Epoch++
		b.Chain = append(b.Chain, fresh(i/2, 1+i%2))
		put(b)
	}
	return set
}

// P11.4: each two right chains of three nodes, two Lives and three Epochs.
func TestFollowsOfEachTwo(t *testing.T) {
	list := smallOnes()
	keys := make([]string, len(list))
	for i, c := range list {
		keys[i] = fmt.Sprint(c)
	}
	yes := 0
	for _, a := range list {
		set := followers(a)
		for i, b := range list {
			if Follows(a, b) != (set[keys[i]] == 1) {
				t.Fatalf("Follows(%v, %v): %v", a, b, Follows(a, b))
			}
			yes += set[keys[i]]
		}
	}
	if len(list) != 738 || yes < 3000 {
		t.Errorf("only %d chains, of which %d follow", len(list), yes)
	}
}

// checkFollower: what was made of a right chain is right, and follows it.
func checkFollower(t *testing.T, a, b api.Config, e api.Errno) {
	t.Helper()
	if e == api.OK && !(Right(b) && plainRight(b) && Follows(a, b)) {
		t.Fatalf("made of %v: %v", a, b)
	}
	if e != api.OK && !same(b, api.Config{}) {
		t.Fatalf("made of %v: %v beside the error %d", a, b, e)
	}
}

// P11.5: each change of each right chain of three nodes.
func TestEachChangeFollows(t *testing.T) {
	for _, a := range smallOnes() {
		for bits := range 1 << 6 {
			var gone []api.Member
			for i := range 6 {
				if bits>>i&1 == 1 {
					gone = append(gone, who(i/2, 1+i%2))
				}
			}
			b, e := Without(a, gone...)
			checkFollower(t, a, b, e)
		}
		for _, m := range someMembers(a) {
			b, e := Join(a, m)
			checkFollower(t, a, b, e)
			b, e = Synced(a, m)
			checkFollower(t, a, b, e)
		}
	}
}

// P11.5: long rows of changes, each of the chain that came ahead.
func TestRowsOfChangesFollow(t *testing.T) {
	r := rand.New(rand.NewSource(7))
	for range 100 {
		a, _ := First(1 + r.Intn(8))
		made := 0
		for range 300 {
			b, e := anyChange(r, a)
			checkFollower(t, a, b, e)
			if e == api.OK {
				made++
				a = b
			}
		}
		if made < 30 {
			t.Errorf("only %d changes", made)
		}
	}
}

// P11.5: one change of each of many chains, some of them at the last Epochs.
func TestAnyChangeFollows(t *testing.T) {
	r := rand.New(rand.NewSource(8))
	full := 0
	for range 50000 {
		a := anyChain(r, 8)
		b, e := anyChange(r, a)
		checkFollower(t, a, b, e)
		if e == api.ErrFull {
			full++
		}
	}
	if full < 100 {
		t.Errorf("only %d at the last Epoch", full)
	}
}

// anyChange: of members who mostly sit, or mostly may join.
func anyChange(r *rand.Rand, a api.Config) (api.Config, api.Errno) {
	m := a.Chain[r.Intn(len(a.Chain))].M
	switch r.Intn(4) {
	case 0:
		other := a.Chain[r.Intn(len(a.Chain))].M
		return Without(a, m, other, who(r.Intn(9), r.Intn(3)))
	case 1:
		return Without(a, m)
	case 2:
		return Join(a, who(r.Intn(9), r.Intn(5)))
	}
	return Synced(a, m)
}
