package config

import (
	"strings"

	"tompion/api"
	"tompion/codec"
)

// syncedByte: the byte of a seat that is.
const syncedByte = 1

// Print: a chain as bytes.
func Print(c api.Config) (string, api.Errno) {
	if !Right(c) {
		return "", api.ErrArg
	}
	return Put(c), api.OK
}

// Read: the chain of bytes.
func Read(s string) (api.Config, api.Errno) {
	r := codec.Read(s)
	c := Take(r)
	if r.Err() != api.OK || r.Left() > 0 {
		return api.Config{}, api.ErrForm
	}
	return c, api.OK
}

// Put: its bytes, without a look.
func Put(c api.Config) string {
	var b strings.Builder
	b.WriteString(numbers(c.Epoch, len(c.Chain)))
	for _, seat := range c.Chain {
		b.WriteString(numbers(seat.M.Node, seat.M.Life))
		b.WriteByte(flag(seat))
	}
	return b.String()
}

// numbers: the bytes of a row of them.
func numbers(row ...int) string {
	var b strings.Builder
	for _, n := range row {
		b.WriteString(codec.Uint(uint64(n)))
	}
	return b.String()
}

// flag: the byte that tells whether a seat is Synced.
func flag(seat api.Seat) byte {
	if seat.Synced {
		return syncedByte
	}
	return 0
}

// Take: the chain that comes next.
func Take(r *codec.Reader) api.Config {
	c := api.Config{Epoch: int(r.Uint())}
	seats := r.Uint()
	// Ahead of the seats, so that a number which may not be doesn't say how many are read.
	if seats > api.MaxNodes {
		r.Fail(api.ErrForm)
	}
	for range seats {
		if r.Err() != api.OK {
			return api.Config{}
		}
		c.Chain = append(c.Chain, takeSeat(r))
	}
	if !Right(c) {
		r.Fail(api.ErrForm)
	}
	if r.Err() != api.OK {
		return api.Config{}
	}
	return c
}

// takeSeat: the seat that comes next.
func takeSeat(r *codec.Reader) api.Seat {
	m := api.Member{Node: int(r.Uint()), Life: int(r.Uint())}
	is := r.Byte()
	if is > syncedByte {
		r.Fail(api.ErrForm)
	}
	return api.Seat{M: m, Synced: is == syncedByte}
}
