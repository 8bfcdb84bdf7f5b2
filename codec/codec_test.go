package codec

import (
	"encoding/binary"
	"math"
	"strings"
	"sync"
	"testing"

	"tompion/api"
)

// numbers: each power of two and its neighbours, so that every count of bytes has its least and its greatest number here.
func numbers() []uint64 {
	all := []uint64{0, 300, 1e9, 0x0123456789abcdef, math.MaxUint64}
	for bit := range 64 {
		n := uint64(1) << bit
		all = append(all, n-1, n, n+1)
	}
	return all
}

// signed: the same with a sign, around 0 and at both bounds.
func signed() []int {
	all := []int{math.MaxInt, math.MaxInt - 1, math.MinInt, math.MinInt + 1}
	for n := -300; n <= 300; n++ {
		all = append(all, n)
	}
	for bit := range 63 {
		n := 1 << bit
		all = append(all, n-1, n, n+1, -n-1, -n, -n+1)
	}
	return all
}

// texts: the empty one, those whose length needs one byte and those whose length needs two, and bytes that are no runes.
func texts() []string {
	return []string{"", "a", "ab", "\x00", "\xff", "\x80\x80", "\xc3\x28\x00\xed\xa0\x80", strings.Repeat("x", 127), strings.Repeat("y", 128), strings.Repeat("\x00\xff", 10000)}
}

func TestUintOfKnownNumbers(t *testing.T) { // P2.1
	for _, c := range []struct {
		n     uint64
		bytes string
	}{
		{0, "\x00"},
		{1, "\x01"},
		{127, "\x7f"},
		{128, "\x80\x01"},
		{255, "\xff\x01"},
		{300, "\xac\x02"},
		{1<<14 - 1, "\xff\x7f"},
		{1 << 14, "\x80\x80\x01"},
		{1 << 40, "\x80\x80\x80\x80\x80\x20"},
		{1<<63 - 1, "\xff\xff\xff\xff\xff\xff\xff\xff\x7f"},
		{1 << 63, "\x80\x80\x80\x80\x80\x80\x80\x80\x80\x01"},
		{math.MaxUint64, "\xff\xff\xff\xff\xff\xff\xff\xff\xff\x01"},
	} {
		if s := Uint(c.n); s != c.bytes {
			t.Errorf("Uint(%d): %x, want %x", c.n, s, c.bytes)
		}
	}
}

func TestUintTakesAsFewBytesAsMayBe(t *testing.T) { // P2.1
	for _, n := range numbers() {
		s := Uint(n)
		if want := string(binary.AppendUvarint(nil, n)); s != want {
			t.Errorf("Uint(%d): %x, want %x", n, s, want)
		}
		if least := 7 * (len(s) - 1); least > 0 && n>>least == 0 {
			t.Errorf("Uint(%d): %d bytes, fewer would do", n, len(s))
		}
	}
}

func TestIntOfKnownNumbers(t *testing.T) { // P2.1
	for _, c := range []struct {
		n     int
		bytes string
	}{
		{0, "\x00"},
		{-1, "\x01"},
		{1, "\x02"},
		{-2, "\x03"},
		{63, "\x7e"},
		{-64, "\x7f"},
		{64, "\x80\x01"},
		{-65, "\x81\x01"},
		{1 << 40, "\x80\x80\x80\x80\x80\x40"},
		{math.MaxInt, "\xfe\xff\xff\xff\xff\xff\xff\xff\xff\x01"},
		{math.MinInt, "\xff\xff\xff\xff\xff\xff\xff\xff\xff\x01"},
	} {
		if s := Int(c.n); s != c.bytes {
			t.Errorf("Int(%d): %x, want %x", c.n, s, c.bytes)
		}
	}
	for _, n := range signed() {
		if s, want := Int(n), string(binary.AppendVarint(nil, int64(n))); s != want {
			t.Errorf("Int(%d): %x, want %x", n, s, want)
		}
	}
}

func TestStrIsTheLengthAndTheBytes(t *testing.T) { // P2.1
	for _, c := range []struct{ text, bytes string }{
		{"", "\x00"},
		{"ab", "\x02ab"},
		{"\x00", "\x01\x00"},
		{"\xff\x80", "\x02\xff\x80"},
		{"é", "\x02\xc3\xa9"},
		{strings.Repeat("x", 127), "\x7f" + strings.Repeat("x", 127)},
		{strings.Repeat("x", 128), "\x80\x01" + strings.Repeat("x", 128)},
	} {
		if s := Str(c.text); s != c.bytes {
			t.Errorf("Str(%q): %q, want %q", c.text, s, c.bytes)
		}
	}
}

// readers: each way to read, by its name; what a reader answers as its zero value or not.
func readers() map[string]func(*Reader) bool {
	return map[string]func(*Reader) bool{
		"Uint":    func(r *Reader) bool { return r.Uint() == 0 },
		"Int":     func(r *Reader) bool { return r.Int() == 0 },
		"Str":     func(r *Reader) bool { return r.Str(math.MaxInt) == "" },
		"Str(-1)": func(r *Reader) bool { return r.Str(-1) == "" },
		"Byte":    func(r *Reader) bool { return r.Byte() == 0 },
		"Left":    func(r *Reader) bool { return r.Left() == 0 },
	}
}

// failed fails unless e is r's error, and stays it, and all else is zero.
func failed(t *testing.T, what string, r *Reader, e api.Errno) {
	t.Helper()
	if r.Err() != e {
		t.Errorf("%s: error %d, want %d", what, r.Err(), e)
	}
	for name, zero := range readers() {
		if !zero(r) || r.Err() != e {
			t.Errorf("%s: behind the error %s answers something, or the error is %d, want %d", what, name, r.Err(), e)
		}
	}
	for _, later := range []api.Errno{api.OK, api.ErrRange, api.ErrArg, e} {
		r.Fail(later)
		if r.Err() != e || r.Left() != 0 {
			t.Errorf("%s: behind Fail(%d) error %d, want %d; left %d", what, later, r.Err(), e, r.Left())
		}
	}
}

// wrong holds bytes at which no number stands.
var wrong = []struct {
	what, bytes string
	e           api.Errno
}{
	{"no bytes", "", api.ErrTorn},
	{"ends behind one byte", "\x80", api.ErrTorn},
	{"ends behind two", "\xff\xff", api.ErrTorn},
	{"ends behind nine", strings.Repeat("\x80", 9), api.ErrTorn},
	{"ends behind nine, all bits set", strings.Repeat("\xff", 9), api.ErrTorn},
	{"0 behind one byte", "\x80\x00", api.ErrForm},
	{"0 behind one byte that isn't 0", "\xff\x00", api.ErrForm},
	{"0 behind two, others behind", "\xac\x82\x00\x01\x02", api.ErrForm},
	{"0 as the tenth", strings.Repeat("\xff", 9) + "\x00", api.ErrForm},
	{"a tenth byte above 1", strings.Repeat("\xff", 9) + "\x02", api.ErrForm},
	{"a tenth byte of 127", strings.Repeat("\x80", 9) + "\x7f", api.ErrForm},
	{"a tenth byte that tells of more, which isn't there", strings.Repeat("\x80", 9) + "\x80", api.ErrForm},
	{"a tenth byte that tells of more", strings.Repeat("\x80", 9) + "\x81\x00", api.ErrForm},
	{"eleven bytes", strings.Repeat("\xff", 10) + "\x01", api.ErrForm},
	{"many bytes", strings.Repeat("\xff", 1000), api.ErrForm},
}

func TestWrongNumbers(t *testing.T) { // P2.2
	for _, w := range wrong {
		r := Read(w.bytes)
		if n := r.Uint(); n != 0 {
			t.Errorf("%s: Uint %d", w.what, n)
		}
		failed(t, w.what+" (Uint)", r, w.e)
		r = Read(w.bytes)
		if n := r.Int(); n != 0 {
			t.Errorf("%s: Int %d", w.what, n)
		}
		failed(t, w.what+" (Int)", r, w.e)
		for _, most := range []int{math.MinInt, -1, 0, 5, math.MaxInt} {
			r = Read(w.bytes)
			if s := r.Str(most); s != "" {
				t.Errorf("%s: Str(%d) %q", w.what, most, s)
			}
			failed(t, w.what+" (Str)", r, w.e)
		}
	}
}

func TestEveryNumberCutIsTorn(t *testing.T) { // P2.2
	for _, n := range numbers() {
		s := Uint(n)
		for size := range len(s) {
			r := Read(s[:size])
			if got := r.Uint(); got != 0 || r.Err() != api.ErrTorn {
				t.Errorf("%x: %d, error %d", s[:size], got, r.Err())
			}
		}
	}
}

func TestTheTenthByteMayBeOne(t *testing.T) { // P2.2
	r := Read(strings.Repeat("\x80", 9) + "\x01\x05")
	if n := r.Uint(); n != 1<<63 || r.Err() != api.OK || r.Left() != 1 {
		t.Errorf("%d, error %d, left %d", n, r.Err(), r.Left())
	}
	if n := r.Uint(); n != 5 || r.Err() != api.OK || r.Left() != 0 {
		t.Errorf("%d, error %d, left %d", n, r.Err(), r.Left())
	}
}

func TestZeroAsTheFirstByteIsANumber(t *testing.T) { // P2.2
	r := Read("\x00\x00\x00\x80\x00")
	for left := 4; left >= 2; left-- {
		if n := r.Uint(); n != 0 || r.Err() != api.OK || r.Left() != left {
			t.Fatalf("%d, error %d, left %d, want left %d", n, r.Err(), r.Left(), left)
		}
	}
	r.Uint()
	failed(t, "0 behind another one", r, api.ErrForm)
}

// TestEveryShortTextIsReadOneWay: of all texts of up to two bytes just those hold a number that Uint writes.
func TestEveryShortTextIsReadOneWay(t *testing.T) { // P2.2
	for i := range 256 {
		one := string([]byte{byte(i)})
		sameAgain(t, one)
		for j := range 256 {
			sameAgain(t, one+string([]byte{byte(j)}))
		}
	}
}

// sameAgain fails unless what is read from s is written just as it stood there.
func sameAgain(t *testing.T, s string) {
	t.Helper()
	r := Read(s)
	n := r.Uint()
	if r.Err() != api.OK {
		if n != 0 || r.Left() != 0 {
			t.Errorf("%x: error %d beside %d, left %d", s, r.Err(), n, r.Left())
		}
		return
	}
	if again := Uint(n) + s[len(s)-r.Left():]; again != s {
		t.Errorf("%x: %d, left %d: written again %x", s, n, r.Left(), again)
	}
	if s[0] >= 128 && s[1] == 0 {
		t.Errorf("%x: read as %d", s, n)
	}
}

func TestByte(t *testing.T) { // P2.2
	var all []byte
	for i := range 256 {
		all = append(all, byte(i))
	}
	r := Read(string(all))
	for i := range 256 {
		if r.Left() != 256-i {
			t.Fatalf("left %d, want %d", r.Left(), 256-i)
		}
		if b := r.Byte(); b != byte(i) || r.Err() != api.OK {
			t.Fatalf("byte %d: %d, error %d", i, b, r.Err())
		}
	}
	if r.Left() != 0 || r.Err() != api.OK {
		t.Fatalf("at the end: left %d, error %d", r.Left(), r.Err())
	}
	if b := r.Byte(); b != 0 {
		t.Errorf("behind the end: %d", b)
	}
	failed(t, "behind the end", r, api.ErrTorn)
}

func TestStr(t *testing.T) { // P2.2
	for _, c := range []struct {
		what, bytes string
		most        int
		text        string
		e           api.Errno
		left        int
	}{
		{"shorter than most", "\x03abcd", 9, "abc", api.OK, 1},
		{"just as long as most", "\x03abcd", 3, "abc", api.OK, 1},
		{"just as long as most, nothing behind", "\x03abc", 3, "abc", api.OK, 0},
		{"the greatest most", "\x03abc", math.MaxInt, "abc", api.OK, 0},
		{"the empty one", "\x00abc", 9, "", api.OK, 3},
		{"the empty one, most 0", "\x00abc", 0, "", api.OK, 3},
		{"the empty one, nothing behind", "\x00", 0, "", api.OK, 0},
		{"the empty one is longer than -1", "\x00abc", -1, "", api.ErrLong, 0},
		{"the least most", "\x00abc", math.MinInt, "", api.ErrLong, 0},
		{"longer than most by one", "\x03abcd", 2, "", api.ErrLong, 0},
		{"longer than most 0", "\x01a", 0, "", api.ErrLong, 0},
		{"longer than most, which comes ahead of torn", "\x03ab", 2, "", api.ErrLong, 0},
		{"longer than most, no byte of it there", "\x03", 2, "", api.ErrLong, 0},
		{"ends within it", "\x03ab", 3, "", api.ErrTorn, 0},
		{"ends ahead of it", "\x03", 9, "", api.ErrTorn, 0},
		{"says the greatest int", Uint(math.MaxInt) + "abc", math.MaxInt, "", api.ErrTorn, 0},
		{"says more than the greatest int", Uint(math.MaxInt+1) + "abc", math.MaxInt, "", api.ErrLong, 0},
		{"says the greatest uint64", Uint(math.MaxUint64) + "abc", math.MaxInt, "", api.ErrLong, 0},
		{"says the greatest uint64, most -1", Uint(math.MaxUint64) + "abc", -1, "", api.ErrLong, 0},
	} {
		r := Read(c.bytes)
		if s := r.Str(c.most); s != c.text || r.Err() != c.e || r.Left() != c.left {
			t.Errorf("%s: %q, error %d, left %d", c.what, s, r.Err(), r.Left())
		}
		if c.e != api.OK {
			failed(t, c.what, r, c.e)
		}
	}
}

func TestEachReadGoesOnFromTheLast(t *testing.T) { // P2.2
	r := Read("\xac\x02" + "\x03" + "\x02ab" + "\xff" + "\x00")
	if r.Left() != 8 || r.Uint() != 300 || r.Left() != 6 || r.Int() != -2 || r.Left() != 5 {
		t.Fatalf("numbers: left %d, error %d", r.Left(), r.Err())
	}
	if r.Str(2) != "ab" || r.Left() != 2 || r.Byte() != 255 || r.Left() != 1 || r.Uint() != 0 || r.Left() != 0 || r.Err() != api.OK {
		t.Fatalf("left %d, error %d", r.Left(), r.Err())
	}
	if r.Uint() != 0 {
		t.Error("behind the end: a number")
	}
	failed(t, "behind the end", r, api.ErrTorn)
}

func TestTheFirstErrorIsTheOne(t *testing.T) { // P2.2
	r := Read("\x80\x00\x05")
	r.Uint()
	failed(t, "a wrong form, then good bytes", r, api.ErrForm)
	r = Read("\x05abc")
	r.Str(4)
	failed(t, "too long, then good bytes", r, api.ErrLong)
	r = Read("\x05")
	r.Str(9)
	failed(t, "torn", r, api.ErrTorn)
}

func TestReadersAreEachByThemselves(t *testing.T) { // P2.2
	s := "\x01\x02\x03"
	a, b := Read(s), Read(s)
	a.Fail(api.ErrArg)
	if b.Err() != api.OK || b.Uint() != 1 || b.Left() != 2 {
		t.Errorf("error %d, left %d", b.Err(), b.Left())
	}
	if c := Read(s); c.Err() != api.OK || c.Left() != 3 {
		t.Errorf("error %d, left %d", c.Err(), c.Left())
	}
}

func TestFail(t *testing.T) { // P2.2
	for _, e := range []api.Errno{api.ErrArg, api.ErrNil, api.ErrLong, 99, -1, math.MaxInt, math.MinInt, 1 << 32} {
		r := Read("\x01\x02")
		r.Fail(e)
		failed(t, "Fail", r, e)
	}
}

func TestFailOK(t *testing.T) { // P2.2
	r := Read("\x01\x02")
	r.Fail(api.OK)
	if r.Err() != api.OK || r.Left() != 2 || r.Uint() != 1 {
		t.Fatalf("error %d, left %d", r.Err(), r.Left())
	}
	r.Fail(api.OK)
	r.Fail(api.ErrRange)
	failed(t, "Fail behind Fail(OK)", r, api.ErrRange)
}

func TestFailBehindAnEarlierError(t *testing.T) { // P2.2
	r := Read("")
	r.Byte()
	r.Fail(api.ErrState)
	failed(t, "torn, then Fail", r, api.ErrTorn)
	r = Read("\x01")
	r.Fail(api.ErrState)
	r.Fail(api.ErrDead)
	failed(t, "Fail twice", r, api.ErrState)
}

func TestErrIsAskedWhileOthersReadAndFail(t *testing.T) { // P2.2
	for range 100 {
		r := Read(strings.Repeat("\x01", 50))
		begin := make(chan struct{})
		var all sync.WaitGroup
		all.Go(func() {
			<-begin
			for range 60 {
				r.Uint()
			}
		})
		for i := range 4 {
			all.Go(func() {
				<-begin
				r.Fail(api.Errno(20 + i))
			})
			all.Go(func() {
				<-begin
				first := api.OK
				for range 50 {
					e := r.Err()
					if first != api.OK && e != first {
						t.Errorf("error %d behind %d", e, first)
					}
					first = e
				}
			})
		}
		close(begin)
		all.Wait()
		if e := r.Err(); e != api.ErrTorn && (e < 20 || e > 23) {
			t.Fatalf("error %d", e)
		}
	}
}

func TestNilReader(t *testing.T) { // P2.3
	var r *Reader
	failed(t, "nil", r, api.ErrNil)
	r.Fail(api.ErrArg)
	if r.Err() != api.ErrNil {
		t.Errorf("error %d", r.Err())
	}
}

func TestReaderThatReadDidNotAnswer(t *testing.T) { // P2.2
	var r Reader
	if r.Err() != api.OK || r.Left() != 0 {
		t.Errorf("error %d, left %d", r.Err(), r.Left())
	}
	r.Byte()
	failed(t, "no bytes", &r, api.ErrTorn)
}

func TestWhatIsWrittenIsReadAsItWas(t *testing.T) { // P2.4
	for _, behind := range []string{"", "\x00", "\x01", "\x80", "\xff\xff", "abc"} {
		for _, n := range numbers() {
			r := Read(Uint(n) + behind)
			if got := r.Uint(); got != n || r.Err() != api.OK {
				t.Errorf("%d is read as %d, error %d", n, got, r.Err())
			}
			leaves(t, r, behind)
		}
		for _, n := range signed() {
			r := Read(Int(n) + behind)
			if got := r.Int(); got != n || r.Err() != api.OK {
				t.Errorf("%d is read as %d, error %d", n, got, r.Err())
			}
			leaves(t, r, behind)
		}
		for _, s := range texts() {
			for _, most := range []int{len(s), len(s) + 1, math.MaxInt} {
				r := Read(Str(s) + behind)
				if got := r.Str(most); got != s || r.Err() != api.OK {
					t.Errorf("%d bytes are read as %d, error %d", len(s), len(got), r.Err())
				}
				leaves(t, r, behind)
			}
		}
	}
}

// leaves fails unless just the bytes of behind are left to r.
func leaves(t *testing.T, r *Reader, behind string) {
	t.Helper()
	if r.Left() != len(behind) {
		t.Errorf("left %d, want %d", r.Left(), len(behind))
		return
	}
	for i := range len(behind) {
		if b := r.Byte(); b != behind[i] {
			t.Errorf("left as byte %d: %x, want %x", i, b, behind[i])
		}
	}
	if r.Err() != api.OK {
		t.Errorf("error %d", r.Err())
	}
}

func TestManyThingsBehindEachOther(t *testing.T) { // P2.4
	var all strings.Builder
	for _, n := range numbers() {
		all.WriteString(Uint(n) + Int(int(n)) + Str(Uint(n)) + "\x80")
	}
	r := Read(all.String())
	for _, n := range numbers() {
		if u, i, s, b := r.Uint(), r.Int(), r.Str(10), r.Byte(); u != n || i != int(n) || s != Uint(n) || b != 0x80 {
			t.Fatalf("%d is read as %d, %d, %x, %x, error %d", n, u, i, s, b, r.Err())
		}
	}
	if r.Left() != 0 || r.Err() != api.OK {
		t.Errorf("left %d, error %d", r.Left(), r.Err())
	}
}
