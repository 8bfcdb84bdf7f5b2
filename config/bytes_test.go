package config

import (
	"encoding/binary"
	"math"
	"math/rand"
	"strings"
	"testing"

	"tompion/api"
)

func checkPrint(t *testing.T, c api.Config, want string, e api.Errno) {
	t.Helper()
	if s, got := Print(c); s != want || got != e {
		t.Errorf("Print(%v): %q, %d, want %q, %d", c, s, got, want, e)
	}
}

func checkRead(t *testing.T, s string, want api.Config, e api.Errno) {
	t.Helper()
	if c, got := Read(s); !same(c, want) || got != e {
		t.Errorf("Read(%q): %v, %d, want %v, %d", s, c, got, want, e)
	}
}

// checkNone: no chain has these bytes.
func checkNone(t *testing.T, s string) {
	t.Helper()
	checkRead(t, s, api.Config{}, api.ErrForm)
}

// P11.3: bytes that are written out, each field at its place.
func TestKnownBytes(t *testing.T) {
	for _, row := range []struct {
		c     api.Config
		bytes string
	}{
		{chain(1, in(0, 1)), "\x01\x01\x00\x01\x01"},
		{chain(3, in(1, 1), fresh(0, 2)), "\x03\x02\x01\x01\x01\x00\x02\x00"},
		{chain(128, in(7, 127), fresh(6, 128), in(5, 300)), "\x80\x01\x03\x07\x7f\x01\x06\x80\x01\x00\x05\xac\x02\x01"},
		{chain(1<<40, in(4, 1<<40)), "\x80\x80\x80\x80\x80\x20\x01\x04\x80\x80\x80\x80\x80\x20\x01"},
		{chain(1<<40-1, in(4, 1<<40-1), fresh(3, 1)), "\xff\xff\xff\xff\xff\x1f\x02\x04\xff\xff\xff\xff\xff\x1f\x01\x03\x01\x00"},
		{chain(2, in(0, 1), in(1, 1), in(2, 1), in(3, 1), fresh(4, 1), fresh(5, 1), fresh(6, 1), in(7, 1)), "\x02\x08\x00\x01\x01\x01\x01\x01\x02\x01\x01\x03\x01\x01\x04\x01\x00\x05\x01\x00\x06\x01\x00\x07\x01\x01"},
	} {
		checkPrint(t, row.c, row.bytes, api.OK)
		if s := Put(row.c); s != row.bytes {
			t.Errorf("Put(%v): %q, want %q", row.c, s, row.bytes)
		}
		checkRead(t, row.bytes, row.c, api.OK)
	}
}

// P11.3: what is right is printed and put, and read as it was.
func TestRightOnesAsBytes(t *testing.T) {
	r := rand.New(rand.NewSource(5))
	list := append(rightOnes(), smallOnes()...)
	for range 3000 {
		list = append(list, anyChain(r, 8))
	}
	had := map[string]api.Config{}
	for _, c := range list {
		s := plainBytes(c)
		checkPrint(t, c, s, api.OK)
		if put := Put(c); put != s {
			t.Errorf("Put(%v): %q, want %q", c, put, s)
		}
		checkRead(t, s, c, api.OK)
		if other, twice := had[s]; twice && !same(other, c) {
			t.Errorf("%v and %v: both %q", c, other, s)
		}
		had[s] = c
	}
}

// P11.3: each number at its edges is printed, or refused, and read, or refused.
func TestBytesAtTheEdges(t *testing.T) {
	for _, n := range numbersAtTheEdges() {
		for place := range 3 {
			c := chain(n, in(3, 1), fresh(4, 2), in(5, 3))
			checkBytes(t, c)
			c.Epoch = 9
			c.Chain[place].M.Node = n
			checkBytes(t, c)
			c.Chain[place].M.Node = 7
			c.Chain[place].M.Life = n
			checkBytes(t, c)
		}
	}
}

// checkBytes: a chain is printed and read if it is right, and neither if it isn't.
func checkBytes(t *testing.T, c api.Config) {
	t.Helper()
	if plainRight(c) {
		checkPrint(t, c, plainBytes(c), api.OK)
		checkRead(t, plainBytes(c), c, api.OK)
	} else {
		checkPrint(t, c, "", api.ErrArg)
		checkNone(t, plainBytes(c))
	}
}

// P11.3: what isn't right has no bytes, and its bytes, if someone writes them, are none.
func TestWrongOnesAsBytes(t *testing.T) {
	for name, c := range wrongOnes() {
		checkPrint(t, c, "", api.ErrArg)
		if _, e := Read(plainBytes(c)); e != api.ErrForm {
			t.Errorf("%s: Read: %d", name, e)
		}
		checkNone(t, plainBytes(c))
	}
}

// P11.3: Put of what isn't right ends, whatever it answers, and answers the same again.
func TestPutOfWrongOnes(t *testing.T) {
	for name, c := range wrongOnes() {
		if Put(c) != Put(c) {
			t.Errorf("%s: Put(%v): not the same twice", name, c)
		}
	}
	long := chain(1)
	for n := range 100000 {
		long.Chain = append(long.Chain, in(-n, math.MinInt+n))
	}
	if Put(long) != Put(long) {
		t.Error("Put of many seats: not the same twice")
	}
}

// P11.3: bytes that are cut at any place, or have one byte more, are none; so are no bytes.
func TestReadOfBytesThatAreCutOrHaveMore(t *testing.T) {
	for _, c := range rightOnes() {
		s := plainBytes(c)
		for size := range len(s) {
			checkNone(t, s[:size])
		}
		for _, more := range []string{"\x00", "\x01", "\x80", "\xff", "\x00\x01\x01", s} {
			checkNone(t, s+more)
		}
	}
	checkNone(t, "")
}

// P11.3: the byte of a seat is 1, if it is Synced, else 0.
func TestReadOfFlags(t *testing.T) {
	for flag := range 256 {
		b := string([]byte{byte(flag)})
		for _, bad := range []string{"\x01\x01\x00\x01" + b, "\x01\x02\x00\x01" + b + "\x01\x01\x00", "\x01\x03\x00\x01" + b + "\x01\x01\x00\x02\x01\x01"} {
			if flag != 1 {
				checkNone(t, bad)
			}
		}
		if flag > 1 {
			checkNone(t, "\x01\x02\x00\x01\x01\x01\x01"+b)
			checkNone(t, "\x01\x03\x00\x01\x01\x01\x01"+b+"\x02\x01\x01")
		}
	}
	checkRead(t, "\x01\x02\x00\x01\x01\x01\x01\x00", chain(1, in(0, 1), fresh(1, 1)), api.OK)
	checkRead(t, "\x01\x02\x00\x01\x01\x01\x01\x01", chain(1, in(0, 1), in(1, 1)), api.OK)
}

// P11.3: how many seats there are is 1 to 8, and as many as there are.
func TestReadOfHowMany(t *testing.T) {
	for seats := 1; seats <= 8; seats++ {
		c, _ := First(seats)
		behind := plainBytes(c)[2:]
		for n := range 128 {
			s := "\x01" + string([]byte{byte(n)}) + behind
			if n == seats {
				checkRead(t, s, c, api.OK)
			} else {
				checkNone(t, s)
			}
		}
		for _, n := range []uint64{128, 255, 256, 256 + uint64(seats), 1<<16 + uint64(seats), 1 << 31, 1<<32 + uint64(seats), 1 << 62, 1<<63 - 1, 1 << 63, 1<<63 + uint64(seats), 1<<64 - 1} {
			checkNone(t, "\x01"+string(binary.AppendUvarint(nil, n))+behind)
		}
	}
	checkNone(t, "\x01\x00")
	checkNone(t, "\x01\x09"+strings.Repeat("\x00\x01\x01", 9))
	for _, many := range []int{9, 10, 100, 10000} {
		checkNone(t, "\x01"+string(binary.AppendUvarint(nil, uint64(many)))+strings.Repeat("\x00\x01\x01", many))
	}
}

// parts: a chain's bytes, field by field, and which of them are numbers.
func parts(c api.Config) (list []string, numbers []int) {
	number := func(n int) {
		numbers = append(numbers, len(list))
		list = append(list, string(binary.AppendUvarint(nil, uint64(n))))
	}
	number(c.Epoch)
	number(len(c.Chain))
	for _, seat := range c.Chain {
		number(seat.M.Node)
		number(seat.M.Life)
		list = append(list, plainBytes(chain(1, seat))[len(plainBytes(chain(1, seat)))-1:])
	}
	return list, numbers
}

// P11.3: each number is written one way: with as few bytes as may be, and ten at most.
func TestReadOfNumbersThatAreWrittenOtherwise(t *testing.T) {
	for _, c := range rightOnes() {
		list, numbers := parts(c)
		checkRead(t, strings.Join(list, ""), c, api.OK)
		for _, i := range numbers {
			for _, bad := range otherwise(list[i]) {
				checkNone(t, strings.Join(list[:i], "")+bad+strings.Join(list[i+1:], ""))
			}
		}
	}
}

// otherwise: a number's bytes in ways in which no number is written: with more bytes than it needs, or with too many; and numbers that are far too great.
func otherwise(s string) []string {
	last := len(s) - 1
	open := s[:last] + string([]byte{s[last] | 0x80})
	nines := strings.Repeat("\xff", 9)
	list := []string{open + "\x00", open + "\x80\x00", nines + "\x00", nines + "\x01", nines + "\x02", nines + "\x7f", nines + "\xff\x01", strings.Repeat("\x80", 10) + "\x01"}
	for size := len(open); size <= 12; size++ {
		list = append(list, open+strings.Repeat("\x80", size-len(open))+"\x00")
	}
	// The same lowest 63 bits, or 32 of them, in a greater number.
	n, _ := binary.Uvarint([]byte(s))
	return append(list, string(binary.AppendUvarint(nil, n+1<<63)), string(binary.AppendUvarint(nil, n+1<<62)), string(binary.AppendUvarint(nil, n+1<<41)))
}

// P11.3: a number is one without a sign.
func TestReadOfNumbersWithASign(t *testing.T) {
	checkNone(t, string(binary.AppendVarint(nil, 1))+"\x01\x00"+string(binary.AppendVarint(nil, -1))+"\x00")
	checkRead(t, "\x02\x01\x01\x03\x01", chain(2, in(1, 3)), api.OK)
}

// P11.3: bytes are those of a chain only where Print has just these of it.
func TestWhateverIsReadIsPrintedSo(t *testing.T) {
	r := rand.New(rand.NewSource(6))
	read := 0
	for range 200000 {
		s := nearlyOne(r)
		c, e := Read(s)
		if e != api.OK {
			checkNone(t, s)
			continue
		}
		read++
		checkPrint(t, c, s, api.OK)
		if !plainRight(c) {
			t.Fatalf("Read(%q): %v", s, c)
		}
	}
	if read < 10000 {
		t.Errorf("only %d of the bytes were read", read)
	}
}

// nearlyOne: a chain's bytes, of which one or another may be changed.
func nearlyOne(r *rand.Rand) string {
	b := []byte(plainBytes(anyChain(r, 5)))
	for range r.Intn(3) {
		b[r.Intn(len(b))] = byte(r.Intn(256)) >> r.Intn(8)
	}
	return string(b)
}
