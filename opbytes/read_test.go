package opbytes

import (
	"encoding/binary"
	"math/rand"
	"strings"
	"testing"

	"tompion/api"
)

func checkRead(t *testing.T, s string, want api.Op, e api.Errno) {
	t.Helper()
	if o, got := Read(s); o != want || got != e {
		t.Errorf("Read(%.300q): %s, %d, want %s, %d", s, short(o), got, short(want), e)
	}
}

// checkNone: no operation has these bytes.
func checkNone(t *testing.T, s string) {
	t.Helper()
	checkRead(t, s, api.Op{}, api.ErrForm)
}

// parts: an operation's bytes, field by field.
func parts(o api.Op) []string {
	list := []string{string([]byte{byte(o.Kind)})}
	for _, n := range []int{o.Client, o.Req, o.Id, o.Gen, o.Occ, o.Due, o.Stamp, o.Epoch} {
		list = append(list, string(binary.AppendVarint(nil, int64(n))))
	}
	list = append(list, string(binary.AppendUvarint(nil, uint64(len(o.Cron)))))
	return append(list, o.Cron)
}

// P10.1, P10.2: what is printed is read as it was.
func TestWhatIsPrintedIsReadAsItWas(t *testing.T) {
	for _, o := range unlike() {
		s, e := Print(o)
		if e != api.OK {
			t.Errorf("Print(%s): %d", short(o), e)
		}
		checkRead(t, s, o, api.OK)
		checkRead(t, plainBytes(o), o, api.OK)
	}
}

// P10.1, P10.2: any operations that may be, of fields of any size.
func TestAnyOnesAreReadAsTheyWere(t *testing.T) {
	r := rand.New(rand.NewSource(1))
	for range 20000 {
		o := anyOne(r)
		s, e := Print(o)
		if s != plainBytes(o) || e != api.OK {
			t.Fatalf("Print(%s): %.300q, %d", short(o), s, e)
		}
		checkRead(t, s, o, api.OK)
	}
}

// anyOne: an operation that may be.
func anyOne(r *rand.Rand) api.Op {
	o := api.Op{Kind: r.Intn(4)}
	for _, field := range []*int{&o.Client, &o.Req, &o.Id, &o.Gen, &o.Occ, &o.Due, &o.Stamp, &o.Epoch} {
		*field = int(r.Uint64()) >> r.Intn(64)
	}
	b := make([]byte, r.Intn(257))
	r.Read(b)
	o.Cron = string(b)
	return o
}

// P10.1: no bytes are none.
func TestReadOfNoBytes(t *testing.T) {
	checkNone(t, "")
}

// P10.1: bytes that are cut at any place, or have one byte more, are none.
func TestReadOfBytesThatAreCutOrHaveMore(t *testing.T) {
	for _, o := range unlike() {
		s := plainBytes(o)
		for size := range len(s) {
			checkNone(t, s[:size])
		}
		for _, more := range []string{"\x00", "\x01", "\x80", "\xff", s} {
			checkNone(t, s+more)
		}
	}
}

// P10.1: a Kind byte above 3 is none, whatever stands behind it.
func TestReadOfKinds(t *testing.T) {
	for _, o := range ordinary() {
		s := plainBytes(o)
		for kind := range 256 {
			o.Kind = kind
			changed := string([]byte{byte(kind)}) + s[1:]
			if kind > 3 {
				checkNone(t, changed)
				checkNone(t, changed[:len(changed)-1])
				checkNone(t, changed+"\x00")
			} else {
				checkRead(t, changed, o, api.OK)
			}
		}
	}
}

// P10.1: a Kind is a byte, not a number of as many bytes as it needs.
func TestTheKindIsOneByte(t *testing.T) {
	checkNone(t, "\x81\x00"+strings.Repeat("\x00", 9))
	checkNone(t, "\x80\x01"+strings.Repeat("\x00", 9))
	checkRead(t, "\x02"+strings.Repeat("\x00", 9), api.Op{Kind: api.OCancel}, api.OK)
}

// P10.1: a Cron whose length is greater than what is left is none.
func TestReadOfCronsThatEndTooEarly(t *testing.T) {
	ahead := "\x01" + strings.Repeat("\x00", 8)
	for n := 1; n <= 256; n++ {
		size := string(binary.AppendUvarint(nil, uint64(n)))
		checkRead(t, ahead+size+strings.Repeat("c", n), api.Op{Kind: api.OSet, Cron: strings.Repeat("c", n)}, api.OK)
		checkNone(t, ahead+size+strings.Repeat("c", n-1))
		checkNone(t, ahead+size)
		checkNone(t, ahead+size+strings.Repeat("c", n+1))
	}
	for _, n := range []uint64{1 << 20, 1<<31 - 1, 1 << 31, 1 << 32, 1<<63 - 1, 1 << 63, 1<<64 - 1} {
		checkNone(t, ahead+string(binary.AppendUvarint(nil, n))+"ccc")
	}
}

// P10.1: a Cron of more than 256 bytes is none, even if they are all there.
func TestReadOfLongCrons(t *testing.T) {
	for kind := range 4 {
		for _, n := range []int{257, 258, 511, 512, 513, 1024, 1 << 16, 1 << 20} {
			checkNone(t, plainBytes(api.Op{Kind: kind, Id: 7, Cron: strings.Repeat("c", n)}))
		}
	}
}

// P10.1: each number, and how long the Cron is, is written one way: with as few bytes as may be, and ten at most.
func TestReadOfNumbersThatAreWrittenOtherwise(t *testing.T) {
	for _, o := range ordinary() {
		list := parts(o)
		for i := 1; i <= 9; i++ {
			for _, bad := range otherwise(list[i]) {
				checkNone(t, strings.Join(list[:i], "")+bad+strings.Join(list[i+1:], ""))
			}
		}
	}
}

// otherwise: a number's bytes in ways in which no number is written: with more bytes than it needs, or with too many.
func otherwise(s string) []string {
	last := len(s) - 1
	open := s[:last] + string([]byte{s[last] | 0x80})
	list := []string{open + "\x00", open + "\x80\x00", strings.Repeat("\xff", 9) + "\x02", strings.Repeat("\xff", 9) + "\x7f", strings.Repeat("\xff", 10) + "\x01", strings.Repeat("\x80", 10) + "\x01"}
	for size := len(open); size <= 12; size++ {
		list = append(list, open+strings.Repeat("\x80", size-len(open))+"\x00")
	}
	return list
}

// P10.1: bytes are those of an operation only where Print has just these of it.
func TestWhateverIsReadIsPrintedSo(t *testing.T) {
	r := rand.New(rand.NewSource(2))
	read := 0
	for range 200000 {
		s := nearlyOne(r)
		o, e := Read(s)
		if e == api.OK {
			read++
			checkPrint(t, o, s, api.OK)
		} else {
			checkNone(t, s)
		}
	}
	if read < 10000 {
		t.Errorf("only %d of the bytes were read", read)
	}
}

// nearlyOne: bytes of which some are an operation's.
func nearlyOne(r *rand.Rand) string {
	b := make([]byte, 8+r.Intn(6))
	for i := range b {
		b[i] = byte(r.Intn(256)) >> (1 + r.Intn(7))
		if r.Intn(20) == 0 {
			b[i] |= 0x80
		}
	}
	b[0] = byte(r.Intn(5))
	if r.Intn(2) == 0 {
		b[len(b)-1-r.Intn(4)] = byte(r.Intn(4))
	}
	return string(b)
}
