package wire

import "tompion/api"

// side: one of the two sides of the wire. It is handed what a field holds, and answers what the field holds from then on.
type side interface {
	number(n int) int
	flag(is bool) bool
	op(o api.Op) api.Op
	conf(c api.Config) api.Config
	fires(list []api.Fire) []api.Fire
}

// fields: those of a message, and the side that they go by.
type fields struct {
	m *api.Msg
	s side
}

// walk: To and the fields of the message's kind go by the side, in order; false, if there is no such kind.
func walk(m *api.Msg, s side) bool {
	f := &fields{m, s}
	row := f.row()
	f.to()
	for _, field := range row {
		field()
	}
	return len(row) > 0
}

// row: which fields the message's kind has.
func (f *fields) row() []func() {
	switch f.m.Kind {
	case api.MBeat:
		return []func(){f.from, f.epoch, f.flag, f.seq}
	case api.MConfig:
		return []func(){f.conf, f.until}
	case api.MSync, api.MHave, api.MDone:
		return []func(){f.from, f.epoch, f.seq, f.life}
	case api.MOp:
		return []func(){f.from, f.epoch, f.seq, f.life, f.op}
	case api.MAsk:
		return []func(){f.from, f.op}
	case api.MReply, api.MShow:
		return []func(){f.req, f.reply, f.seq}
	case api.MRead:
		return []func(){f.from, f.req, f.id}
	case api.MWhich:
		return []func(){f.from, f.epoch, f.life, f.req, f.client, f.id}
	case api.MThis:
		return []func(){f.from, f.epoch, f.life, f.req, f.client, f.id, f.seq}
	case api.MPoll:
		return []func(){f.from, f.seq}
	case api.MFires:
		return []func(){f.seq, f.fires}
	case api.MWhere:
		return []func(){f.from}
	}
	return nil
}

func (f *fields) to()     { f.m.To = f.s.number(f.m.To) }
func (f *fields) epoch()  { f.m.Epoch = f.s.number(f.m.Epoch) }
func (f *fields) seq()    { f.m.Seq = f.s.number(f.m.Seq) }
func (f *fields) req()    { f.m.Req = f.s.number(f.m.Req) }
func (f *fields) client() { f.m.Client = f.s.number(f.m.Client) }
func (f *fields) id()     { f.m.Id = f.s.number(f.m.Id) }
func (f *fields) until()  { f.m.Until = f.s.number(f.m.Until) }
func (f *fields) life()   { f.m.Life = f.s.number(f.m.Life) }
func (f *fields) flag()   { f.m.Flag = f.s.flag(f.m.Flag) }
func (f *fields) op()     { f.m.Op = f.s.op(f.m.Op) }
func (f *fields) conf()   { f.m.Conf = f.s.conf(f.m.Conf) }
func (f *fields) fires()  { f.m.Fires = f.s.fires(f.m.Fires) }

func (f *fields) from() {
	from := &f.m.From
	from.Node = f.s.number(from.Node)
	from.Life = f.s.number(from.Life)
}

func (f *fields) reply() {
	reply := &f.m.Reply
	reply.Err = api.Errno(f.s.number(int(reply.Err)))
	reply.Gen = f.s.number(reply.Gen)
	reply.Due = f.s.number(reply.Due)
}

// fire: the fields of one go by the side, in order.
func fire(x api.Fire, s side) api.Fire {
	x.Seq = s.number(x.Seq)
	x.Client = s.number(x.Client)
	x.Id = s.number(x.Id)
	x.Gen = s.number(x.Gen)
	x.Occ = s.number(x.Occ)
	x.Stamp = s.number(x.Stamp)
	return x
}
