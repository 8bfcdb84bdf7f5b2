package opbytes

import (
	"strings"
	"testing"

	"tompion/api"
	"tompion/codec"
)

func checkTake(t *testing.T, r *codec.Reader, want api.Op, left int) {
	t.Helper()
	if o := Take(r); o != want || r.Err() != api.OK || r.Left() != left {
		t.Fatalf("Take: %s, error %d, left %d, want %s, left %d", short(o), r.Err(), r.Left(), short(want), left)
	}
}

// checkTakeNone: none that may be comes next, and nothing more either.
func checkTakeNone(t *testing.T, what string, r *codec.Reader, e api.Errno) {
	t.Helper()
	for range 3 {
		if o := Take(r); o != (api.Op{}) || r.Err() != e || r.Left() != 0 {
			t.Fatalf("%s: Take: %s, error %d, left %d, want error %d", what, short(o), r.Err(), r.Left(), e)
		}
	}
	if b := r.Byte(); b != 0 || r.Err() != e {
		t.Fatalf("%s: behind it a byte %d, error %d, want error %d", what, b, r.Err(), e)
	}
}

// P10.1, P10.2: the operation is taken, and what stands behind it is left.
func TestTakeLeavesWhatStandsBehind(t *testing.T) {
	for _, behind := range []string{"", "\x00", "\x04", "\x80", "\xff\xff", "abc"} {
		for _, o := range unlike() {
			r := codec.Read(plainBytes(o) + behind)
			checkTake(t, r, o, len(behind))
			for i := range len(behind) {
				if b := r.Byte(); b != behind[i] || r.Err() != api.OK {
					t.Fatalf("%s: left as byte %d: %d, error %d", short(o), i, b, r.Err())
				}
			}
		}
	}
}

// P10.1: Take goes on from where the reader stands.
func TestTakeGoesOnFromWhereTheReaderStands(t *testing.T) {
	for _, o := range ordinary() {
		s := plainBytes(o)
		r := codec.Read("\xac\x02" + "\x03" + "\x02ab" + "\xff" + s + "\x05")
		if r.Uint() != 300 || r.Int() != -2 || r.Str(2) != "ab" || r.Byte() != 255 {
			t.Fatalf("what stands ahead: error %d", r.Err())
		}
		checkTake(t, r, o, 1)
		if r.Uint() != 5 || r.Err() != api.OK || r.Left() != 0 {
			t.Fatalf("what stands behind: error %d, left %d", r.Err(), r.Left())
		}
	}
}

// P10.1, P10.2: several operations, one behind the other, and then no more.
func TestTakeOfSeveral(t *testing.T) {
	list := unlike()
	var b strings.Builder
	for _, o := range list {
		b.WriteString(Put(o))
	}
	r := codec.Read(b.String())
	left := b.Len()
	for _, o := range list {
		left -= len(plainBytes(o))
		checkTake(t, r, o, left)
	}
	checkTakeNone(t, "behind the last one", r, api.ErrTorn)
}

// P10.1: bytes that are cut hold none: the reader finds that they end.
func TestTakeOfBytesThatAreCut(t *testing.T) {
	for _, o := range ordinary() {
		s := plainBytes(o)
		for size := range len(s) {
			checkTakeNone(t, "cut", codec.Read(s[:size]), api.ErrTorn)
		}
	}
	s := plainBytes(api.Op{Kind: api.OSet, Cron: strings.Repeat("c", 256)})
	checkTakeNone(t, "a Cron of 256 cut by one", codec.Read(s[:len(s)-1]), api.ErrTorn)
}

// P10.1: where nothing else is wrong than the Kind, the error is ErrForm.
func TestTakeOfKindsThatMayNotBe(t *testing.T) {
	for _, o := range ordinary() {
		s := plainBytes(o)
		for kind := range 256 {
			o.Kind = kind
			r := codec.Read(string([]byte{byte(kind)}) + s[1:] + "\x07")
			if kind > 3 {
				checkTakeNone(t, "a Kind above 3", r, api.ErrForm)
			} else {
				checkTake(t, r, o, 1)
			}
		}
	}
}

// P10.1: where something else is wrong, that is the error, with a Kind that may be and with one that mayn't.
func TestTakeOfWhatTheReaderFindsWrong(t *testing.T) {
	zeros := strings.Repeat("\x00", 8)
	for _, kind := range []string{"\x00", "\x03", "\x04", "\xff"} {
		for _, c := range []struct {
			what, bytes string
			e           api.Errno
		}{
			{"no number", kind, api.ErrTorn},
			{"no last number", kind + zeros[1:], api.ErrTorn},
			{"no Cron", kind + zeros, api.ErrTorn},
			{"a Cron that ends too early", kind + zeros + "\x03ab", api.ErrTorn},
			{"a Cron of 257, all there", kind + zeros + "\x81\x02" + strings.Repeat("c", 257), api.ErrLong},
			{"a Cron of 257, none of it there", kind + zeros + "\x81\x02", api.ErrLong},
			{"a number with more bytes than it needs", kind + "\x80\x00" + zeros[1:] + "\x00", api.ErrForm},
			{"a number of too many bytes", kind + zeros[1:] + strings.Repeat("\xff", 9) + "\x02" + "\x00", api.ErrForm},
			{"a length with more bytes than it needs", kind + zeros + "\x82\x00ab", api.ErrForm},
			{"a wrong number ahead of a Cron of 257", kind + "\x80\x00" + zeros[1:] + "\x81\x02", api.ErrForm},
		} {
			checkTakeNone(t, c.what, codec.Read(c.bytes), c.e)
		}
	}
	checkTakeNone(t, "no bytes", codec.Read(""), api.ErrTorn)
}

// P10.1: a good operation is taken, and one that may not be behind it isn't.
func TestTakeOfAGoodOneAheadOfABadOne(t *testing.T) {
	for _, o := range ordinary() {
		s := plainBytes(o)
		r := codec.Read(s + s[:len(s)-1])
		checkTake(t, r, o, len(s)-1)
		checkTakeNone(t, "cut", r, api.ErrTorn)
		r = codec.Read(s + "\x04" + s[1:])
		checkTake(t, r, o, len(s))
		checkTakeNone(t, "a Kind of 4", r, api.ErrForm)
	}
}

// P10.1: a reader's own error stays, and nothing is taken.
func TestTakeFromAReaderWithAnError(t *testing.T) {
	for _, o := range append(ordinary(), api.Op{Kind: 4}) {
		for _, e := range []api.Errno{api.ErrArg, api.ErrTorn, api.ErrForm, api.ErrLong, api.ErrState, -1, 99} {
			r := codec.Read(plainBytes(o))
			r.Fail(e)
			checkTakeNone(t, "an error ahead", r, e)
		}
	}
	r := codec.Read("\x02abc" + plainBytes(api.Op{Kind: api.OSet}))
	r.Str(1)
	checkTakeNone(t, "too long a text ahead", r, api.ErrLong)
}

// P10.1: there is nothing to take from no reader.
func TestTakeFromNoReader(t *testing.T) {
	checkTakeNone(t, "nil", nil, api.ErrNil)
	checkTakeNone(t, "of no bytes", new(codec.Reader), api.ErrTorn)
}
