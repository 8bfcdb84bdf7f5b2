package crc

import (
	"hash/crc32"
	"strings"
	"sync"
	"testing"
)

// known holds sums that were worked out elsewhere.
var known = []struct {
	text string
	sum  uint32
}{
	{"", 0},
	{"\x00", 0xD202EF8D},
	{"\xff", 0xFF000000},
	{"a", 0xE8B7BE43},
	{"abc", 0x352441C2},
	{"123456789", 0xCBF43926},
	{"\x00\x00\x00\x00", 0x2144DF1C},
	{"\xff\xff\xff\xff", 0xFFFFFFFF},
	{"The quick brown fox jumps over the lazy dog", 0x414FA339},
}

// texts: every length up to some, and bytes of every value, valid as runes or not.
func texts() []string {
	var every strings.Builder
	for i := range 256 {
		every.WriteByte(byte(i))
	}
	all := []string{every.String(), strings.Repeat("\x00", 40), strings.Repeat("\xff", 40), "\xc3\x28\x00\xed\xa0\x80", strings.Repeat(every.String(), 300)}
	for n := range 40 {
		all = append(all, every.String()[200-n:200], every.String()[:n])
	}
	for i := range 256 {
		all = append(all, string([]byte{byte(i)}))
	}
	return all
}

func TestSumOfKnownTexts(t *testing.T) { // P1.1
	x := New()
	for _, k := range known {
		if got := x.Sum(k.text); got != k.sum {
			t.Errorf("Sum(%q): %08X, want %08X", k.text, got, k.sum)
		}
	}
}

func TestSumIsThatOfIEEE(t *testing.T) { // P1.1
	x := New()
	for _, s := range texts() {
		if got, want := x.Sum(s), crc32.ChecksumIEEE([]byte(s)); got != want {
			t.Errorf("Sum of %d bytes: %08X, want %08X", len(s), got, want)
		}
	}
}

func TestSumHangsOnItsTextAlone(t *testing.T) { // P1.1
	x := New()
	first := x.Sum("123456789")
	x.Sum("another")
	if again := x.Sum("123456789"); again != first {
		t.Errorf("again: %08X, at first %08X", again, first)
	}
	if other := New().Sum("123456789"); other != first {
		t.Errorf("by another table: %08X, want %08X", other, first)
	}
}

func TestTableIsMadeAtTheFirstSum(t *testing.T) { // P1.1
	for _, s := range []string{"", "a", "123456789"} {
		x := New()
		for range 3 {
			if x.Made() != 0 {
				t.Fatalf("never asked: made %d times", x.Made())
			}
		}
		for range 3 {
			x.Sum(s)
			if x.Made() != 1 {
				t.Fatalf("Sum(%q): made %d times", s, x.Made())
			}
		}
	}
}

func TestTablesAreMadeEachByItself(t *testing.T) { // P1.1
	x, y := New(), New()
	if x == nil || y == nil || x == y {
		t.Fatal("New answers no table of its own")
	}
	x.Sum("a")
	s, _ := Frame("a")
	Whole(s)
	if x.Made() != 1 || y.Made() != 0 {
		t.Errorf("made %d and %d times", x.Made(), y.Made())
	}
}

func TestTableIsMadeOnceBySeveralAtTheSameTime(t *testing.T) { // P1.1
	for range 200 {
		x := New()
		begin := make(chan struct{})
		var all sync.WaitGroup
		for i := range 16 {
			all.Go(func() {
				<-begin
				if m := x.Made(); m != 0 && m != 1 {
					t.Errorf("made %d times", m)
				}
				k := known[i%len(known)]
				if got := x.Sum(k.text); got != k.sum {
					t.Errorf("Sum(%q): %08X, want %08X", k.text, got, k.sum)
				}
				if x.Made() != 1 {
					t.Errorf("behind a Sum: made %d times", x.Made())
				}
			})
		}
		close(begin)
		all.Wait()
		if x.Made() != 1 {
			t.Fatalf("behind all: made %d times", x.Made())
		}
	}
}

func TestNilTable(t *testing.T) { // P1.1
	var x *Table
	for _, k := range known {
		if got := x.Sum(k.text); got != 0 {
			t.Errorf("Sum(%q): %08X, want 0", k.text, got)
		}
		if x.Made() != 0 {
			t.Errorf("made %d times", x.Made())
		}
	}
}

func TestTableThatNewDidNotAnswer(t *testing.T) { // P1.1
	var x Table
	if x.Made() != 0 || x.Sum("123456789") != 0xCBF43926 || x.Made() != 1 {
		t.Errorf("made %d times", x.Made())
	}
}

func TestFramePutsTheSumBehind(t *testing.T) { // P1.2
	for _, c := range []struct {
		text, framed string
		sum          uint32
	}{
		{"", "\x00\x00\x00\x00", 0},
		{"\x00", "\x00\xd2\x02\xef\x8d", 0xD202EF8D},
		{"\xff", "\xff\xff\x00\x00\x00", 0xFF000000},
		{"123456789", "123456789\xcb\xf4\x39\x26", 0xCBF43926},
	} {
		if framed, sum := Frame(c.text); framed != c.framed || sum != c.sum {
			t.Errorf("Frame(%q): %q, %08X, want %q, %08X", c.text, framed, sum, c.framed, c.sum)
		}
	}
}

func TestWholeTurnsFrameRound(t *testing.T) { // P1.2
	for _, s := range texts() {
		framed, sum := Frame(s)
		if want := crc32.ChecksumIEEE([]byte(s)); sum != want || len(framed) != len(s)+4 {
			t.Errorf("Frame of %d bytes: %d bytes, %08X, want %08X", len(s), len(framed), sum, want)
		}
		if text, ok := Whole(framed); text != s || !ok {
			t.Errorf("Whole of a frame of %d bytes: %d bytes, %v", len(s), len(text), ok)
		}
		twice, _ := Frame(framed)
		if text, ok := Whole(twice); text != framed || !ok {
			t.Errorf("Whole of a frame of a frame of %d bytes: %d bytes, %v", len(s), len(text), ok)
		}
	}
}

// refuse fails unless s is answered as one that isn't whole.
func refuse(t *testing.T, what, s string) {
	t.Helper()
	if text, ok := Whole(s); ok || text != "" {
		t.Errorf("%s: Whole(%q): %q, %v", what, s, text, ok)
	}
}

func TestWholeRefusesWhatIsTooShort(t *testing.T) { // P1.2
	refuse(t, "no bytes", "")
	for i := range 256 {
		b := string([]byte{byte(i)})
		for n := 1; n < 4; n++ {
			refuse(t, "fewer than four bytes", strings.Repeat(b, n))
		}
	}
}

func TestWholeRefusesWhatFrameDoesNotMake(t *testing.T) { // P1.2
	refuse(t, "the lowest byte first", "123456789\x26\x39\xf4\xcb")
	refuse(t, "bits not turned", "123456789\x34\x0b\xc6\xd9")
	refuse(t, "the sum ahead", "\xcb\xf4\x39\x26123456789")
	refuse(t, "no sum", "123456789")
	refuse(t, "a sum alone", "\xcb\xf4\x39\x26")
	refuse(t, "four bytes", "abcd")
}

func TestWholeRefusesCutsAndAdditions(t *testing.T) { // P1.2
	for _, text := range []string{"a", "abc", "123456789", "\xff", "\xff\xff\xff\xff", "The quick brown fox jumps over the lazy dog"} {
		framed, _ := Frame(text)
		for n := range len(framed) {
			refuse(t, "cut off behind", framed[:n])
			refuse(t, "one byte cut out", framed[:n]+framed[n+1:])
			if n > 0 {
				refuse(t, "cut off ahead", framed[n:])
			}
		}
		refuse(t, "a byte more", framed+"x")
		refuse(t, "a byte more ahead", "x"+framed)
	}
}

func TestWholeTakesACutThatIsAFrameItself(t *testing.T) { // P1.2
	framed, _ := Frame("\x00\x00\x00\x00")
	if text, ok := Whole(framed[:4]); text != "" || !ok {
		t.Errorf("Whole(%q): %q, %v: it is the frame of the empty text", framed[:4], text, ok)
	}
}

func TestOneChangedByteIsNotWhole(t *testing.T) { // P1.3
	for _, k := range known {
		framed, _ := Frame(k.text)
		for place := range len(framed) {
			for change := 1; change < 256; change++ {
				b := []byte(framed)
				b[place] ^= byte(change)
				refuse(t, "one byte changed", string(b))
			}
		}
	}
}

func TestOneChangedByteOfALongTextIsNotWhole(t *testing.T) { // P1.3
	framed, _ := Frame(strings.Repeat("0123456789abcdef", 64))
	for place := range len(framed) {
		for _, change := range []byte{0x01, 0x80, 0xff} {
			b := []byte(framed)
			b[place] ^= change
			if text, ok := Whole(string(b)); ok || text != "" {
				t.Errorf("place %d, change %02x: %d bytes, %v", place, change, len(text), ok)
			}
		}
	}
}
