package wire

import (
	"strings"

	"tompion/api"
	"tompion/codec"
	"tompion/config"
	"tompion/opbytes"
)

const (
	mostFires = 8
	setFlag   = 1 // the byte of a Flag that is
)

// sender: it writes each field that goes by, and empties it, so that what a message holds behind that is what its kind doesn't have.
type sender struct {
	text  strings.Builder
	wrong bool // something went by that may not be
}

func (s *sender) number(n int) int {
	s.text.WriteString(codec.Int(n))
	return 0
}

func (s *sender) flag(is bool) bool {
	var b byte
	if is {
		b = setFlag
	}
	s.text.WriteByte(b)
	return false
}

func (s *sender) op(o api.Op) api.Op {
	s.write(opbytes.Print(o))
	return api.Op{}
}

func (s *sender) conf(c api.Config) api.Config {
	s.write(config.Print(c))
	return api.Config{}
}

// write: what a layer below has printed, if it could.
func (s *sender) write(bytes string, e api.Errno) {
	s.text.WriteString(bytes)
	s.wrong = s.wrong || e != api.OK
}

func (s *sender) fires(list []api.Fire) []api.Fire {
	if len(list) > mostFires {
		s.wrong = true
		return nil
	}
	s.text.WriteString(codec.Uint(uint64(len(list))))
	for _, x := range list {
		fire(x, s)
	}
	return nil
}

// receiver: it fills each field that goes by with what its reader has next.
type receiver struct{ r *codec.Reader }

func (c receiver) number(int) int { return c.r.Int() }

func (c receiver) flag(bool) bool {
	b := c.r.Byte()
	if b > setFlag {
		c.r.Fail(api.ErrForm)
	}
	return b == setFlag
}

func (c receiver) op(api.Op) api.Op { return opbytes.Take(c.r) }

func (c receiver) conf(api.Config) api.Config { return config.Take(c.r) }

func (c receiver) fires([]api.Fire) []api.Fire {
	many := c.r.Uint()
	// Ahead of the fires, so that a number which may not be doesn't say how many are read.
	if many > mostFires {
		c.r.Fail(api.ErrForm)
		return nil
	}
	var list []api.Fire
	for range many {
		list = append(list, fire(api.Fire{}, c))
	}
	return list
}
