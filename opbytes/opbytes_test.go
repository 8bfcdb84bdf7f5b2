package opbytes

import (
	"encoding/binary"
	"fmt"
	"math"
	"strings"
	"testing"

	"tompion/api"
)

// plainBytes: an operation's bytes, worked out without the layers below.
func plainBytes(o api.Op) string {
	b := []byte{byte(o.Kind)}
	for _, n := range []int{o.Client, o.Req, o.Id, o.Gen, o.Occ, o.Due, o.Stamp, o.Epoch} {
		b = binary.AppendVarint(b, int64(n))
	}
	b = binary.AppendUvarint(b, uint64(len(o.Cron)))
	return string(append(b, o.Cron...))
}

// ordinary: an operation of each Kind that may be, and one of which each field is another one.
func ordinary() []api.Op {
	return []api.Op{
		{},
		{Kind: api.OSet, Client: 100, Req: 1, Id: 7, Due: 1000, Stamp: 64},
		{Kind: api.OSet, Client: 101, Req: 2, Id: 7, Cron: "*/5 * * * *", Stamp: 70, Epoch: 3},
		{Kind: api.OCancel, Client: 100, Req: 2, Id: 7, Epoch: 1},
		{Kind: api.OFire, Id: 7, Gen: 2, Occ: 300, Stamp: 301, Epoch: 4},
		{Kind: api.OFire, Client: 1, Req: 2, Id: 3, Gen: 4, Occ: 5, Due: 6, Stamp: 7, Epoch: 8, Cron: "\x09\x0a"},
	}
}

// fields: each number of an operation beside its Kind, by its name.
func fields() map[string]func(*api.Op) *int {
	return map[string]func(*api.Op) *int{
		"Client": func(o *api.Op) *int { return &o.Client },
		"Req":    func(o *api.Op) *int { return &o.Req },
		"Id":     func(o *api.Op) *int { return &o.Id },
		"Gen":    func(o *api.Op) *int { return &o.Gen },
		"Occ":    func(o *api.Op) *int { return &o.Occ },
		"Due":    func(o *api.Op) *int { return &o.Due },
		"Stamp":  func(o *api.Op) *int { return &o.Stamp },
		"Epoch":  func(o *api.Op) *int { return &o.Epoch },
	}
}

// edges: 0 and its neighbours, both sides of each place where one byte more is needed, and the bounds.
func edges() []int {
	list := []int{0, 1, -1, api.MaxNum, -api.MaxNum, math.MaxInt - 1, math.MaxInt, math.MinInt + 1, math.MinInt}
	for bit := 6; bit < 63; bit += 7 {
		n := 1 << bit
		list = append(list, n-1, n, -n, -n-1)
	}
	return list
}

func everyByte() string {
	b := make([]byte, 256)
	for i := range b {
		b[i] = byte(i)
	}
	return string(b)
}

// crons: texts of each length at which something changes, up to 256 bytes, and bytes that are no text in any writing.
func crons() []string {
	return []string{
		"", "a", "\x00", "\x80", "\xff", "\x00\x00\x00", "\xc3\x28\xed\xa0\x80", "* * * * *", "héllo",
		strings.Repeat("x", 127), strings.Repeat("y", 128), strings.Repeat("\x80", 255), strings.Repeat("\x00", 256), strings.Repeat("\xff", 256), everyByte(),
	}
}

// unlike: many operations that may be, no two of them alike.
func unlike() []api.Op {
	list := ordinary()[1:] // the first one comes as that without a Cron
	for kind := range 4 {
		for _, field := range fields() {
			for _, n := range edges()[1:] { // beside 0, which is the same in each field
				o := api.Op{Kind: kind}
				*field(&o) = n
				list = append(list, o)
			}
		}
		for _, text := range crons() {
			list = append(list, api.Op{Kind: kind, Cron: text})
		}
		for _, n := range edges()[1:] {
			list = append(list, api.Op{Kind: kind, Client: n, Req: n, Id: n, Gen: n, Occ: n, Due: n, Stamp: n, Epoch: n, Cron: everyByte()})
		}
	}
	return list
}

// wrongKinds: such as may not be; of some of them the lowest byte alone, or the lowest four, would be one that may.
func wrongKinds() []int {
	list := []int{4, 5, 127, 128, 255, -1, -2, -3, -4, -255, math.MaxInt, math.MaxInt - 1, math.MinInt + 7}
	for kind := range 4 {
		for _, n := range []int{256, -256, 1 << 16, 1 << 32, -1 << 32, 1 << 62, math.MinInt} {
			list = append(list, kind+n)
		}
	}
	return list
}

// wrongOnes: operations that may not be.
func wrongOnes() []api.Op {
	var list []api.Op
	for _, o := range ordinary() {
		for _, kind := range wrongKinds() {
			o.Kind = kind
			list = append(list, o)
		}
	}
	for kind := range 4 {
		for _, n := range []int{257, 258, 511, 512, 1024, 1 << 16, 1<<16 + 5, 1 << 20} {
			list = append(list, api.Op{Kind: kind, Id: 7, Cron: strings.Repeat("c", n)})
		}
	}
	return append(list, api.Op{Kind: 4, Cron: strings.Repeat("c", 257)}, api.Op{Kind: math.MinInt, Client: math.MinInt, Epoch: math.MinInt, Cron: strings.Repeat("\xff", 300)})
}

func checkPrint(t *testing.T, o api.Op, want string, e api.Errno) {
	t.Helper()
	if s, got := Print(o); s != want || got != e {
		t.Errorf("Print(%s): %.300q, %d, want %.300q, %d", short(o), s, got, want, e)
	}
}

// short: an operation as a test tells it, its Cron perhaps cut.
func short(o api.Op) string {
	text := o.Cron
	o.Cron = ""
	return fmt.Sprintf("%+v with a Cron of %d bytes, %.100q", o, len(text), text)
}

// P10.1: bytes that are written out, each field at its place.
func TestKnownBytes(t *testing.T) {
	for _, c := range []struct {
		o     api.Op
		bytes string
	}{
		{api.Op{}, "\x00\x00\x00\x00\x00\x00\x00\x00\x00\x00"},
		{api.Op{Kind: api.OFire, Id: 1}, "\x03\x00\x00\x02\x00\x00\x00\x00\x00\x00"},
		{api.Op{Kind: api.OSet, Client: 100, Req: 1, Id: 7, Due: 1000, Stamp: 64}, "\x01\xc8\x01\x02\x0e\x00\x00\xd0\x0f\x80\x01\x00\x00"},
		{api.Op{Kind: api.OCancel, Client: -1, Epoch: -64}, "\x02\x01\x00\x00\x00\x00\x00\x00\x7f\x00"},
		{api.Op{Kind: api.OFire, Client: 1, Req: 2, Id: 3, Gen: 4, Occ: 5, Due: 6, Stamp: 7, Epoch: 8, Cron: "ab"}, "\x03\x02\x04\x06\x08\x0a\x0c\x0e\x10\x02ab"},
		{api.Op{Client: -1, Req: -2, Id: -3, Gen: -4, Occ: -5, Due: -6, Stamp: -7, Epoch: -8, Cron: "\x00"}, "\x00\x01\x03\x05\x07\x09\x0b\x0d\x0f\x01\x00"},
		{api.Op{Kind: api.OSet, Gen: math.MaxInt, Occ: math.MinInt}, "\x01\x00\x00\x00\xfe\xff\xff\xff\xff\xff\xff\xff\xff\x01\xff\xff\xff\xff\xff\xff\xff\xff\xff\x01\x00\x00\x00\x00"},
		{api.Op{Cron: strings.Repeat("z", 256)}, "\x00\x00\x00\x00\x00\x00\x00\x00\x00\x80\x02" + strings.Repeat("z", 256)},
	} {
		checkPrint(t, c.o, c.bytes, api.OK)
		if s := Put(c.o); s != c.bytes {
			t.Errorf("Put(%s): %.300q, want %.300q", short(c.o), s, c.bytes)
		}
		checkRead(t, c.bytes, c.o, api.OK)
	}
}

// P10.1: what may be is printed, each field as the layers below would have it.
func TestPrintOfThoseThatMayBe(t *testing.T) {
	for _, o := range unlike() {
		checkPrint(t, o, plainBytes(o), api.OK)
	}
}

// P10.1: each field at each edge, with others beside it that are not 0.
func TestPrintOfEachFieldAtItsEdges(t *testing.T) {
	for name, field := range fields() {
		for _, n := range edges() {
			for _, o := range ordinary() {
				*field(&o) = n
				if s, e := Print(o); s != plainBytes(o) || e != api.OK {
					t.Errorf("%s %d: Print(%s): %.300q, %d", name, n, short(o), s, e)
				}
			}
		}
	}
}

// P10.1: beside a Kind of 0 to 3, and a Cron of at most 256 bytes, nothing is printed.
func TestPrintOfThoseThatMayNot(t *testing.T) {
	for _, o := range wrongOnes() {
		checkPrint(t, o, "", api.ErrArg)
	}
}

// P10.1: the Kind may be 0 to 3, and the Cron may have 256 bytes, but neither one more.
func TestPrintAtTheBounds(t *testing.T) {
	for kind := -300; kind <= 300; kind++ {
		o := api.Op{Kind: kind, Id: 7}
		if kind < 0 || kind > 3 {
			checkPrint(t, o, "", api.ErrArg)
		} else {
			checkPrint(t, o, plainBytes(o), api.OK)
		}
	}
	for n := range 600 {
		o := api.Op{Kind: api.OSet, Cron: strings.Repeat("c", n)}
		if n > 256 {
			checkPrint(t, o, "", api.ErrArg)
		} else {
			checkPrint(t, o, plainBytes(o), api.OK)
		}
	}
}

// P10.1: Put has the bytes that Print has.
func TestPutIsAsPrint(t *testing.T) {
	for _, o := range unlike() {
		s, e := Print(o)
		if put := Put(o); put != s || e != api.OK {
			t.Errorf("%s: Put %.300q, Print %.300q, %d", short(o), put, s, e)
		}
	}
}

// P10.1: Put of one that may not be ends, whatever it answers, and answers the same again.
func TestPutOfThoseThatMayNot(t *testing.T) {
	for _, o := range wrongOnes() {
		if Put(o) != Put(o) {
			t.Errorf("Put(%s): not the same twice", short(o))
		}
	}
}

// P10.2: of operations that are unlike, no two have the same bytes, and the bytes of none begin with those of another one.
func TestUnlikeOnesHaveBytesOfTheirOwn(t *testing.T) {
	had := map[string]api.Op{}
	for _, o := range unlike() {
		s, e := Print(o)
		if other, twice := had[s]; e != api.OK || twice {
			t.Errorf("%s and %s: both %.300q, %d", short(o), short(other), s, e)
		}
		had[s] = o
	}
	for s := range had {
		for size := range len(s) {
			if other, begins := had[s[:size]]; begins {
				t.Errorf("%.300q begins with the bytes of %s", s, short(other))
			}
		}
	}
}
