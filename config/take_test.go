package config

import (
	"encoding/binary"
	"strings"
	"testing"

	"tompion/api"
	"tompion/codec"
)

func checkTake(t *testing.T, r *codec.Reader, want api.Config, left int) {
	t.Helper()
	if c := Take(r); !same(c, want) || r.Err() != api.OK || r.Left() != left {
		t.Fatalf("Take: %v, error %d, left %d, want %v, left %d", c, r.Err(), r.Left(), want, left)
	}
}

// checkTakeNone: no right chain comes next, and nothing more either.
func checkTakeNone(t *testing.T, what string, r *codec.Reader, e api.Errno) {
	t.Helper()
	for range 3 {
		if c := Take(r); c.Epoch != 0 || len(c.Chain) != 0 || r.Err() != e || r.Left() != 0 {
			t.Fatalf("%s: Take: %v, error %d, left %d, want error %d", what, c, r.Err(), r.Left(), e)
		}
	}
	if b := r.Byte(); b != 0 || r.Err() != e {
		t.Fatalf("%s: behind it a byte %d, error %d, want error %d", what, b, r.Err(), e)
	}
}

// P11.3: the chain is taken, and what stands behind it is left.
func TestTakeLeavesWhatStandsBehind(t *testing.T) {
	for _, behind := range []string{"", "\x00", "\x01", "\x80", "\xff\xff", "\x07\x01\x01", "abc"} {
		for _, c := range rightOnes() {
			r := codec.Read(plainBytes(c) + behind)
			checkTake(t, r, c, len(behind))
			for i := range len(behind) {
				if b := r.Byte(); b != behind[i] || r.Err() != api.OK {
					t.Fatalf("%v: left as byte %d: %d, error %d", c, i, b, r.Err())
				}
			}
		}
	}
}

// P11.3: Take goes on from where the reader stands.
func TestTakeGoesOnFromWhereTheReaderStands(t *testing.T) {
	for _, c := range rightOnes() {
		r := codec.Read("\xac\x02" + "\x03" + "\x02ab" + "\xff" + plainBytes(c) + "\x05")
		if r.Uint() != 300 || r.Int() != -2 || r.Str(2) != "ab" || r.Byte() != 255 {
			t.Fatalf("what stands ahead: error %d", r.Err())
		}
		checkTake(t, r, c, 1)
		if r.Uint() != 5 || r.Err() != api.OK || r.Left() != 0 {
			t.Fatalf("what stands behind: error %d, left %d", r.Err(), r.Left())
		}
	}
}

// P11.3: several chains, one behind the other, and then no more; none shares memory with another one.
func TestTakeOfSeveral(t *testing.T) {
	list := append(rightOnes(), smallOnes()...)
	var b strings.Builder
	for _, c := range list {
		b.WriteString(Put(c))
	}
	r := codec.Read(b.String())
	var taken []api.Config
	for range list {
		taken = append(taken, Take(r))
	}
	checkTakeNone(t, "behind the last one", r, api.ErrTorn)
	for i, c := range taken {
		if !same(c, list[i]) {
			t.Fatalf("the chain %d: %v, want %v", i, c, list[i])
		}
		seats := c.Chain[:cap(c.Chain)]
		for place := range seats {
			seats[place] = fresh(-1, -1)
		}
	}
}

// P11.3: bytes that are cut hold none: the reader finds that they end.
func TestTakeOfBytesThatAreCut(t *testing.T) {
	for _, c := range rightOnes() {
		s := plainBytes(c)
		for size := range len(s) {
			checkTakeNone(t, "cut", codec.Read(s[:size]), api.ErrTorn)
		}
	}
}

// P11.3: where no number is wrong by itself, but the chain isn't right, the error is ErrForm.
func TestTakeOfChainsThatAreNotRight(t *testing.T) {
	for name, c := range wrongOnes() {
		checkTakeNone(t, name, codec.Read(plainBytes(c)), api.ErrForm)
		checkTakeNone(t, name, codec.Read(plainBytes(c)+"\x07"), api.ErrForm)
	}
}

// P11.3: a byte for Synced that may not be, at each seat.
func TestTakeOfFlags(t *testing.T) {
	for flag := 2; flag < 256; flag++ {
		b := string([]byte{byte(flag)})
		for _, s := range []string{"\x01\x01\x00\x01" + b, "\x01\x02\x00\x01" + b + "\x01\x01\x00", "\x01\x02\x00\x01\x01\x01\x01" + b} {
			checkTakeNone(t, "a byte for Synced", codec.Read(s), api.ErrForm)
			checkTakeNone(t, "a byte for Synced", codec.Read(s+"\x01\x01"), api.ErrForm)
		}
	}
}

// P11.3: more seats than there may be, all there or not.
func TestTakeOfTooManySeats(t *testing.T) {
	for _, n := range []uint64{9, 10, 127, 128, 255, 256, 1 << 16, 1 << 32, 1<<63 - 1, 1 << 63, 1<<64 - 1} {
		count := "\x01" + string(binary.AppendUvarint(nil, n))
		checkTakeNone(t, "too many seats", codec.Read(count), api.ErrForm)
		checkTakeNone(t, "too many seats", codec.Read(count+"\x00\x01\x01"), api.ErrForm)
		if n <= 1<<16 {
			checkTakeNone(t, "too many seats", codec.Read(count+strings.Repeat("\x00\x01\x01", int(n))), api.ErrForm)
		}
	}
}

// P11.3: what the reader itself finds wrong is the error.
func TestTakeOfNumbersThatAreWrittenOtherwise(t *testing.T) {
	for _, s := range []string{"\x81\x00\x01\x00\x01\x01", "\x01\x81\x00\x00\x01\x01", "\x01\x01\x80\x00\x01\x01", "\x01\x01\x00\x81\x00\x01", strings.Repeat("\xff", 9) + "\x02\x01\x00\x01\x01"} {
		checkTakeNone(t, "a number with more bytes", codec.Read(s), api.ErrForm)
	}
}

// P11.3: a good chain is taken, and one that isn't right behind it isn't.
func TestTakeOfAGoodOneAheadOfABadOne(t *testing.T) {
	for _, c := range rightOnes() {
		s := plainBytes(c)
		r := codec.Read(s + s[:len(s)-1])
		checkTake(t, r, c, len(s)-1)
		checkTakeNone(t, "cut", r, api.ErrTorn)
		r = codec.Read(s + "\x00\x01\x00\x01\x01")
		checkTake(t, r, c, 5)
		checkTakeNone(t, "no Epoch", r, api.ErrForm)
	}
}

// P11.3: a reader's own error stays, and nothing is taken.
func TestTakeFromAReaderWithAnError(t *testing.T) {
	for _, e := range []api.Errno{api.ErrArg, api.ErrTorn, api.ErrForm, api.ErrLong, api.ErrState, -1, 99} {
		for _, s := range []string{plainBytes(chain(3, in(1, 1), fresh(0, 2))), "", "\x01\x09", "\x00"} {
			r := codec.Read(s)
			r.Fail(e)
			checkTakeNone(t, "an error ahead", r, e)
		}
	}
	r := codec.Read("\x02abc" + plainBytes(chain(1, in(0, 1))))
	r.Str(1)
	checkTakeNone(t, "too long a text ahead", r, api.ErrLong)
}

// P11.3: there is nothing to take from no reader.
func TestTakeFromNoReader(t *testing.T) {
	checkTakeNone(t, "nil", nil, api.ErrNil)
	checkTakeNone(t, "of no bytes", new(codec.Reader), api.ErrTorn)
	checkTakeNone(t, "of no bytes", codec.Read(""), api.ErrTorn)
}
