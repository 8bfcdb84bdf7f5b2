package config

import (
	"slices"

	"tompion/api"
)

// Without: the next chain, without some.
func Without(c api.Config, gone ...api.Member) (api.Config, api.Errno) {
	if !Right(c) {
		return api.Config{}, api.ErrForm
	}
	var left []api.Seat
	for _, seat := range c.Chain {
		if !slices.Contains(gone, seat.M) {
			left = append(left, seat)
		}
	}
	if len(left) == len(c.Chain) {
		return api.Config{}, api.ErrNone
	}
	if len(left) == 0 || !left[0].Synced {
		return api.Config{}, api.ErrState
	}
	return later(c.Epoch, left)
}

// Join: the next chain, with one at its end.
func Join(c api.Config, m api.Member) (api.Config, api.Errno) {
	if !Right(c) {
		return api.Config{}, api.ErrForm
	}
	if !mayBe(m) {
		return api.Config{}, api.ErrArg
	}
	if sits(c.Chain, m.Node) {
		return api.Config{}, api.ErrOnce
	}
	// Into a copy, because what was handed in may have room behind its last seat.
	return later(c.Epoch, append(slices.Clone(c.Chain), api.Seat{M: m}))
}

// later: the chain of these seats, one Epoch behind that.
func later(epoch int, seats []api.Seat) (api.Config, api.Errno) {
	if epoch >= api.MaxNum {
		return api.Config{}, api.ErrFull
	}
	return api.Config{Epoch: epoch + 1, Chain: seats}, api.OK
}

// Synced: the chain, in which one is synced.
func Synced(c api.Config, m api.Member) (api.Config, api.Errno) {
	if !Right(c) {
		return api.Config{}, api.ErrForm
	}
	place := Place(c, m)
	if place < 0 {
		return api.Config{}, api.ErrNone
	}
	if c.Chain[place].Synced {
		return api.Config{}, api.ErrOnce
	}
	seats := slices.Clone(c.Chain)
	seats[place].Synced = true
	return api.Config{Epoch: c.Epoch, Chain: seats}, api.OK
}

// Follows: may one come behind another one?
func Follows(a, b api.Config) bool {
	if !Right(a) || !Right(b) {
		return false
	}
	switch b.Epoch - a.Epoch {
	case 0:
		return syncedOnce(a.Chain, b.Chain)
	case 1:
		return leftOut(a.Chain, b.Chain) || joined(a.Chain, b.Chain)
	}
	return false
}

// syncedOnce: whether b is a, or a with one seat Synced more.
func syncedOnce(a, b []api.Seat) bool {
	if len(a) != len(b) {
		return false
	}
	more := 0
	for i, seat := range a {
		if b[i] == seat {
			continue
		}
		if b[i] != (api.Seat{M: seat.M, Synced: true}) {
			return false
		}
		more++
	}
	return more <= 1
}

// leftOut: whether b is a, some left out, or none.
func leftOut(a, b []api.Seat) bool {
	for _, seat := range b {
		i := slices.Index(a, seat)
		if i < 0 {
			return false
		}
		// What follows has to sit behind it, because the order stays.
		a = a[i+1:]
	}
	return true
}

// joined: whether b is a, and one more behind it that isn't Synced.
func joined(a, b []api.Seat) bool {
	last := len(b) - 1
	return last == len(a) && slices.Equal(a, b[:last]) && !b[last].Synced
}
