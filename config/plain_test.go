package config

import (
	"encoding/binary"
	"math"
	"math/rand"
	"slices"
	"testing"

	"tompion/api"
)

func who(node, life int) api.Member { return api.Member{Node: node, Life: life} }

// in: a seat that is Synced.
func in(node, life int) api.Seat { return api.Seat{M: who(node, life), Synced: true} }

// fresh: a seat that isn't.
func fresh(node, life int) api.Seat { return api.Seat{M: who(node, life)} }

func chain(epoch int, seats ...api.Seat) api.Config { return api.Config{Epoch: epoch, Chain: seats} }

func same(a, b api.Config) bool { return a.Epoch == b.Epoch && slices.Equal(a.Chain, b.Chain) }

// copied: the same, and nothing of its memory.
func copied(c api.Config) api.Config {
	return api.Config{Epoch: c.Epoch, Chain: append([]api.Seat{}, c.Chain...)}
}

// plainRight: whether a chain is, in the words of the document, one by one.
func plainRight(c api.Config) bool {
	lives := map[int]int{}
	for _, seat := range c.Chain {
		lives[seat.M.Node]++
		if seat.M.Node < 0 || seat.M.Node > 7 || seat.M.Life < 1 || seat.M.Life > 1<<40 {
			return false
		}
	}
	for _, n := range lives {
		if n > 1 {
			return false
		}
	}
	return c.Epoch >= 1 && c.Epoch <= 1<<40 && len(c.Chain) >= 1 && len(c.Chain) <= 8 && c.Chain[0].Synced
}

// plainBytes: a chain's bytes, worked out without the layers below.
func plainBytes(c api.Config) string {
	b := binary.AppendUvarint(nil, uint64(c.Epoch))
	b = binary.AppendUvarint(b, uint64(len(c.Chain)))
	for _, seat := range c.Chain {
		b = binary.AppendUvarint(b, uint64(seat.M.Node))
		b = binary.AppendUvarint(b, uint64(seat.M.Life))
		if seat.Synced {
			b = append(b, 1)
		} else {
			b = append(b, 0)
		}
	}
	return string(b)
}

// plainWithout: what Without has to answer for a right chain.
func plainWithout(c api.Config, gone []api.Member) (api.Config, api.Errno) {
	lost := map[api.Member]int{}
	for _, m := range gone {
		lost[m] = 1
	}
	d := api.Config{Epoch: c.Epoch + 1}
	went := 0
	for _, seat := range c.Chain {
		if lost[seat.M] == 1 {
			went++
		} else {
			d.Chain = append(d.Chain, seat)
		}
	}
	switch {
	case went == 0:
		return api.Config{}, api.ErrNone
	case went == len(c.Chain) || !d.Chain[0].Synced:
		return api.Config{}, api.ErrState
	case d.Epoch > 1<<40:
		return api.Config{}, api.ErrFull
	}
	return d, api.OK
}

// numbersAtTheEdges: 0 and its neighbours, the bounds, and those that are small ones if only their lowest bits count.
func numbersAtTheEdges() []int {
	return []int{0, 1, 2, 6, 7, 8, 9, 127, 128, 255, 256, 257, 1 << 16, 1<<16 + 1, 1 << 32, 1<<32 + 1, 1<<40 - 1, 1 << 40, 1<<40 + 1, 1<<41 + 1, 1 << 62, 1<<62 + 1, -1, -2, -7, -8, -255, -1 << 32, 1 - 1<<32, -1 << 40, math.MaxInt - 1, math.MaxInt, math.MinInt, math.MinInt + 1}
}

// rightOnes: many chains that are right, no two of them alike.
func rightOnes() []api.Config {
	list := []api.Config{
		chain(1, in(0, 1)),
		chain(1<<40, in(7, 1<<40)),
		chain(1<<40-1, in(7, 1<<40-1), fresh(0, 1<<40)),
		chain(128, in(1, 127), in(0, 128), in(2, 16384)),
		chain(3, in(1, 1), fresh(0, 2)),
		chain(9, in(3, 2), fresh(2, 2), in(1, 2), fresh(0, 2)),
		chain(300, in(7, 9), in(6, 8), in(5, 7), in(4, 6), in(3, 5), in(2, 4), in(1, 3), in(0, 2)),
		chain(1<<40, in(0, 1), fresh(1, 1), fresh(2, 1), fresh(3, 1), fresh(4, 1), fresh(5, 1), fresh(6, 1), fresh(7, 1)),
		chain(1<<32+1, in(0, 1<<32+1), in(1, 256), fresh(2, 1<<16)),
	}
	for node := range 8 {
		list = append(list, chain(2, in(node, 3)), chain(2, in(node, 3), fresh((node+1)%8, 3)), chain(2, in(node, 3), in((node+7)%8, 1<<40)))
	}
	return list
}

// wrongOnes: chains that aren't right, each for a cause of its own.
func wrongOnes() map[string]api.Config {
	nine := chain(5, in(0, 1), in(1, 1), in(2, 1), in(3, 1), in(4, 1), in(5, 1), in(6, 1), in(7, 1))
	list := map[string]api.Config{
		"nothing":                        {},
		"an Epoch alone":                 chain(1),
		"an empty list":                  {Epoch: 1, Chain: []api.Seat{}},
		"no Epoch":                       chain(0, in(0, 1)),
		"an Epoch below 0":               chain(-1, in(0, 1)),
		"an Epoch above 2^40":            chain(1<<40+1, in(0, 1)),
		"the greatest Epoch":             chain(math.MaxInt, in(0, 1)),
		"the least Epoch":                chain(math.MinInt, in(0, 1)),
		"a Node of -1":                   chain(1, in(-1, 1)),
		"a Node of 8":                    chain(1, in(8, 1)),
		"a last Node of 8":               chain(1, in(0, 1), in(8, 1)),
		"a Node amid of -1":              chain(1, in(0, 1), in(-1, 1), in(2, 1)),
		"the greatest Node":              chain(1, in(0, 1), in(math.MaxInt, 1)),
		"the least Node":                 chain(1, in(0, 1), in(math.MinInt, 1)),
		"a Life of 0":                    chain(1, in(0, 0)),
		"a last Life of 0":               chain(1, in(0, 1), fresh(1, 0)),
		"a Life of -1":                   chain(1, in(0, 1), in(1, -1)),
		"a Life above 2^40":              chain(1, in(0, 1), in(1, 1<<40+1), in(2, 1)),
		"the greatest Life":              chain(1, in(0, math.MaxInt)),
		"the least Life":                 chain(1, in(0, math.MinInt)),
		"a node twice":                   chain(1, in(0, 1), in(0, 1)),
		"a node twice, of another Life":  chain(1, in(0, 1), in(0, 2)),
		"the first node as the last one": chain(1, in(0, 1), in(1, 1), in(2, 1), fresh(0, 9)),
		"the last two of a node":         chain(1, in(0, 1), in(1, 1), fresh(2, 1), fresh(2, 1)),
		"a first one that isn't Synced":  chain(1, fresh(0, 1)),
		"others that are Synced":         chain(1, fresh(0, 1), in(1, 1), in(2, 1)),
		"all wrong":                      chain(0, fresh(-1, 0), fresh(-1, 0)),
	}
	nine.Chain = append(nine.Chain, in(0, 2))
	list["nine seats"] = nine
	eight := copied(nine)
	eight.Chain[8] = in(8, 1)
	list["nine nodes"] = eight
	many := chain(1)
	for i := range 300 {
		many.Chain = append(many.Chain, in(i%8, i+1))
	}
	list["three hundred seats"] = many
	return list
}

// someMembers: members that sit in the chain, the same nodes with other Lives, and others.
func someMembers(c api.Config) []api.Member {
	list := []api.Member{{}, who(0, 1), who(0, 2), who(1, 1), who(7, 1), who(7, 1<<40), who(8, 1), who(-1, 1), who(3, 0), who(3, -1), who(2, 1<<40+1), who(math.MaxInt, math.MaxInt), who(math.MinInt, math.MinInt)}
	for _, seat := range c.Chain {
		list = append(list, seat.M, who(seat.M.Node, seat.M.Life+1), who(seat.M.Node, seat.M.Life-1), who(seat.M.Node+1, seat.M.Life))
	}
	return list
}

// anyChain: a right chain of up to so many seats.
func anyChain(r *rand.Rand, most int) api.Config {
	c := api.Config{Epoch: 1 + r.Intn(4)}
	if r.Intn(4) == 0 {
		c.Epoch = 1<<40 - r.Intn(3)
	}
	for i, node := range r.Perm(8)[:1+r.Intn(most)] {
		c.Chain = append(c.Chain, api.Seat{M: who(node, 1+r.Intn(3)), Synced: i == 0 || r.Intn(2) == 0})
	}
	return c
}

// smallOnes: each right chain of three nodes, two Lives and three Epochs.
func smallOnes() []api.Config {
	rows := [][]api.Seat{nil}
	var list []api.Config
	for len(rows) > 0 {
		row := rows[0]
		rows = rows[1:]
		for epoch := 1; epoch <= 3 && len(row) > 0; epoch++ {
			list = append(list, chain(epoch, row...))
		}
		for i := range 3 * 2 * 2 {
			seat := api.Seat{M: who(i/4, 1+i/2%2), Synced: i%2 == 1}
			longer := append(slices.Clone(row), seat)
			if plainRight(chain(1, longer...)) {
				rows = append(rows, longer)
			}
		}
	}
	return list
}

// checkChain: what a call answers that makes a chain.
func checkChain(t *testing.T, what string, got api.Config, e api.Errno, want api.Config, wantE api.Errno) {
	t.Helper()
	if !same(got, want) || e != wantE {
		t.Errorf("%s: %v, %d, want %v, %d", what, got, e, want, wantE)
	}
}
