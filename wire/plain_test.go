package wire

import (
	"encoding/binary"
	"fmt"
	"hash/crc32"
	"math"
	"reflect"
	"slices"
	"strings"
	"testing"

	"tompion/api"
)

// rows: the names of each kind's fields, as the document has them.
var rows = []string{
	1:  "From Epoch Flag Seq",
	2:  "Conf Until",
	3:  "From Epoch Seq Life",
	4:  "From Epoch Seq Life",
	5:  "From Epoch Seq Life Op",
	6:  "From Epoch Seq Life",
	7:  "From Op",
	8:  "Req Reply Seq",
	9:  "From Req Id",
	10: "Req Reply Seq",
	11: "From Epoch Life Req Client Id",
	12: "From Epoch Life Req Client Id Seq",
	13: "From Seq",
	14: "Seq Fires",
	15: "From",
}

// has: whether messages of the kind have the field of that name.
func has(kind int, name string) bool {
	return name == "Kind" || name == "To" || slices.Contains(strings.Fields(rows[kind]), name)
}

// sum: the sum behind a message's text, worked out by the library.
func sum(text string) string {
	return string(binary.BigEndian.AppendUint32(nil, crc32.ChecksumIEEE([]byte(text))))
}

// whole: a text with its sum.
func whole(text string) string { return text + sum(text) }

// plainText: a message's bytes ahead of the sum, worked out field by field by their names, without the layers below.
func plainText(m api.Msg) string {
	return strings.Join(plainParts(m), "")
}

// plainParts: the same, each number, byte and text by itself.
func plainParts(m api.Msg) []string {
	v := reflect.ValueOf(m)
	list := []string{string([]byte{byte(m.Kind)}), number(m.To)}
	for _, name := range strings.Fields(rows[m.Kind]) {
		list = append(list, plainField(v.FieldByName(name).Interface())...)
	}
	return list
}

func number(n int) string { return string(binary.AppendVarint(nil, int64(n))) }

func count(n int) string { return string(binary.AppendUvarint(nil, uint64(n))) }

func numbers(row ...int) []string {
	var list []string
	for _, n := range row {
		list = append(list, number(n))
	}
	return list
}

func plainFlag(is bool) string {
	if is {
		return "\x01"
	}
	return "\x00"
}

func plainField(field any) []string {
	switch x := field.(type) {
	case int:
		return numbers(x)
	case bool:
		return []string{plainFlag(x)}
	case api.Member:
		return numbers(x.Node, x.Life)
	case api.Reply:
		return numbers(int(x.Err), x.Gen, x.Due)
	case api.Op:
		list := append([]string{string([]byte{byte(x.Kind)})}, numbers(x.Client, x.Req, x.Id, x.Gen, x.Occ, x.Due, x.Stamp, x.Epoch)...)
		return append(list, count(len(x.Cron)), x.Cron)
	case api.Config:
		list := []string{count(x.Epoch), count(len(x.Chain))}
		for _, seat := range x.Chain {
			list = append(list, count(seat.M.Node), count(seat.M.Life), plainFlag(seat.Synced))
		}
		return list
	case []api.Fire:
		list := []string{count(len(x))}
		for _, f := range x {
			list = append(list, numbers(f.Seq, f.Client, f.Id, f.Gen, f.Occ, f.Stamp)...)
		}
		return list
	}
	panic("a field of another type")
}

// same: whether two messages are, with nil and an empty list as one, by the library.
func same(a, b api.Msg) bool {
	return reflect.DeepEqual(bare(a), bare(b))
}

// bare: a copy with nil for empty lists, and with nothing of m's memory.
func bare(m api.Msg) api.Msg {
	m.Conf.Chain = append([]api.Seat(nil), m.Conf.Chain...)
	m.Fires = append([]api.Fire(nil), m.Fires...)
	return m
}

func who(node, life int) api.Member { return api.Member{Node: node, Life: life} }

func chain(epoch int, seats ...api.Seat) api.Config { return api.Config{Epoch: epoch, Chain: seats} }

// in: a seat that is Synced.
func in(node, life int) api.Seat { return api.Seat{M: who(node, life), Synced: true} }

// fresh: a seat that isn't.
func fresh(node, life int) api.Seat { return api.Seat{M: who(node, life)} }

// crowd: a right chain of so many seats.
func crowd(seats int) api.Config {
	c := chain(1 << 40)
	for i := range seats {
		c.Chain = append(c.Chain, api.Seat{M: who(seats-1-i, 1<<40-i), Synced: i%2 == 0})
	}
	return c
}

// fires: so many, no two of them alike.
func fires(many int) []api.Fire {
	var list []api.Fire
	for i := range many {
		list = append(list, api.Fire{Seq: 100 + i, Client: 100, Id: -i, Gen: 2 * i, Occ: 60 * i, Stamp: 61 * i})
	}
	return list
}

// everything: a message none of whose fields is zero.
func everything(kind int) api.Msg {
	return api.Msg{Kind: kind, To: 200, From: who(3, 4), Epoch: 5, Seq: 1000, Req: 7, Client: 101, Id: -9, Until: 1 << 40, Flag: true,
		Op:    api.Op{Kind: api.OFire, Client: 100, Req: 2, Id: 3, Gen: 4, Occ: 5, Due: 6, Stamp: 7, Epoch: 8, Cron: "* * * * *"},
		Reply: api.Reply{Err: api.ErrFull, Gen: 11, Due: 12},
		Conf:  chain(13, in(1, 14), fresh(2, 15)),
		Fires: fires(2), Life: 16}
}

// full: a message of the kind, none of whose fields is zero.
func full(kind int) api.Msg { return cut(everything(kind)) }

// cut: without the fields that its kind doesn't have.
func cut(m api.Msg) api.Msg {
	v := reflect.ValueOf(&m).Elem()
	for i := range v.NumField() {
		if !has(m.Kind, v.Type().Field(i).Name) {
			v.Field(i).SetZero()
		}
	}
	return m
}

// least: the message of the kind of whose fields as many are zero as may be.
func least(kind int) api.Msg {
	m := api.Msg{Kind: kind}
	if kind == api.MConfig {
		m.Conf = chain(1, in(0, 1))
	}
	return m
}

// greatest: the longest message of the kind.
func greatest(kind int) api.Msg {
	const most = math.MinInt
	all := api.Msg{Kind: kind, To: most, From: who(most, most), Epoch: most, Seq: most, Req: most, Client: most, Id: most, Until: most, Flag: true,
		Op:    api.Op{Kind: 3, Client: most, Req: most, Id: most, Gen: most, Occ: most, Due: most, Stamp: most, Epoch: most, Cron: strings.Repeat("\xff", 256)},
		Reply: api.Reply{Err: most, Gen: most, Due: most},
		Conf:  crowd(8), Fires: slices.Repeat([]api.Fire{{Seq: most, Client: most, Id: most, Gen: most, Occ: most, Stamp: most}}, 8), Life: most}
	return cut(all)
}

// rightOnes: messages that may be, of all kinds.
func rightOnes() []api.Msg {
	var list []api.Msg
	for kind := 1; kind <= 15; kind++ {
		list = append(list, least(kind), full(kind), greatest(kind))
	}
	for seats := 1; seats <= 8; seats++ {
		list = append(list, api.Msg{Kind: api.MConfig, To: seats, Conf: crowd(seats), Until: -seats})
	}
	for many := range 9 {
		list = append(list, api.Msg{Kind: api.MFires, To: 100, Seq: many, Fires: fires(many)})
	}
	for kind := range 4 {
		list = append(list, api.Msg{Kind: api.MOp, Op: api.Op{Kind: kind}}, api.Msg{Kind: api.MAsk, Op: api.Op{Kind: kind, Cron: "\x00"}})
	}
	return append(list, api.Msg{Kind: api.MBeat}, api.Msg{Kind: api.MBeat, Flag: true})
}

// leaf: a number, a bool or a text inside of a message: how it is reached.
type leaf struct {
	name string // of the field of Msg in which it is
	path string
	of   func(m *api.Msg) reflect.Value
}

// leaves: all of those of a message, in the first seat and the first fire, too, if there is one.
func leaves(m api.Msg) []leaf {
	var list []leaf
	var walkIn func(v reflect.Value, name, path string, of func(m *api.Msg) reflect.Value)
	walkIn = func(v reflect.Value, name, path string, of func(m *api.Msg) reflect.Value) {
		switch v.Kind() {
		case reflect.Struct:
			for i := range v.NumField() {
				field := v.Type().Field(i).Name
				if path == "" {
					name = field
				}
				walkIn(v.Field(i), name, path+"."+field, func(m *api.Msg) reflect.Value { return of(m).Field(i) })
			}
		case reflect.Slice:
			for i := range v.Len() {
				walkIn(v.Index(i), name, path+"[]", func(m *api.Msg) reflect.Value { return of(m).Index(i) })
			}
		default:
			list = append(list, leaf{name, path, of})
		}
	}
	walkIn(reflect.ValueOf(m), "", "", func(m *api.Msg) reflect.Value { return reflect.ValueOf(m).Elem() })
	return list
}

// alter: makes another value of it.
func alter(v reflect.Value) {
	switch v.Kind() {
	case reflect.Bool:
		v.SetBool(!v.Bool())
	case reflect.String:
		v.SetString(v.String() + "x")
	default:
		v.SetInt(v.Int() + 1)
	}
}

// short: what a test tells of a message.
func short(m api.Msg) string { return fmt.Sprintf("%#v", m) }

func checkPrint(t *testing.T, m api.Msg, want string, e api.Errno) {
	t.Helper()
	if s, got := Print(m); s != want || got != e {
		t.Errorf("Print(%.400s): %x, %d, want %x, %d", short(m), s, got, want, e)
	}
}

// checkWrong: it may not be.
func checkWrong(t *testing.T, m api.Msg) {
	t.Helper()
	checkPrint(t, m, "", api.ErrArg)
}

func checkRead(t *testing.T, s string, want api.Msg, e api.Errno) {
	t.Helper()
	if m, got := Read(s); !same(m, want) || got != e {
		t.Errorf("Read(%.400x): %.400s, %d, want %.400s, %d", s, short(m), got, short(want), e)
	}
}

// checkNone: no message has these bytes.
func checkNone(t *testing.T, s string) {
	t.Helper()
	checkRead(t, s, api.Msg{}, api.ErrForm)
}

func checkSame(t *testing.T, a, b api.Msg, want bool) {
	t.Helper()
	if Same(a, b) != want || Same(b, a) != want {
		t.Errorf("Same(%.400s, %.400s): %v, and turned round %v, want %v", short(a), short(b), Same(a, b), Same(b, a), want)
	}
}
