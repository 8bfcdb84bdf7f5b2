package stable

import (
	"encoding/binary"
	"hash/crc32"
	"math/rand"
	"slices"
	"strings"
	"testing"
	"unsafe"

	"tompion/crc"
)

// plainBytes: a record's bytes, worked out without the layers below.
func plainBytes(s string) string {
	b := append(binary.AppendUvarint(nil, uint64(len(s))), s...)
	return string(binary.BigEndian.AppendUint32(b, crc32.ChecksumIEEE(b)))
}

// plainScan: the records of bytes, by trying at each place whether any record's bytes stand there.
func plainScan(s string) (list []string, good int) {
	for {
		n, size := binary.Uvarint([]byte(s[good:]))
		if size <= 0 || n > uint64(len(s)-good-size) {
			return list, good
		}
		text := s[good+size:][:n]
		if !strings.HasPrefix(s[good:], plainBytes(text)) {
			return list, good
		}
		list = append(list, text)
		good += len(plainBytes(text))
	}
}

func everyByte() string {
	b := make([]byte, 256)
	for i := range b {
		b[i] = byte(i)
	}
	return string(b)
}

// someTexts: of no bytes, of lengths at which how long they are takes a byte more, of bytes of every value, and of bytes that look like a record's own.
func someTexts() []string {
	list := []string{
		"", "a", "bc", "\x00", "\xff", "\x00\x00\x00\x00", "\xc3\x28\xed\xa0\x80",
		everyByte(), Bytes(""), Bytes("q"), Bytes("q") + Bytes("r"), Bytes("q")[1:], Bytes("q")[:5], Bytes(Bytes("")), "\x01" + Bytes("a"), strings.Repeat("\x80", 20),
	}
	for _, n := range []int{126, 127, 128, 129, 1023, 1024, 1025, 1<<14 - 1, 1 << 14, 70000} {
		list = append(list, strings.Repeat("\x7f", n), strings.Repeat("\xfe", n))
	}
	return list
}

func checkScan(t *testing.T, what, s string, want []string, far int) {
	t.Helper()
	list, good := Scan(s)
	if !slices.Equal(list, want) || good != far {
		t.Errorf("%s: Scan of %d bytes: %d records, %d, want %d records, %d", what, len(s), len(list), good, len(want), far)
	}
}

// P7.1: Bytes are how long the record is, the record, and the sum of both, the highest byte first.
func TestBytesOfRecords(t *testing.T) {
	for _, c := range [][2]string{
		{"", "\x00\xd2\x02\xef\x8d"},
		{"a", "\x01a\x62\x77\x72\x70"},
		{"bc", "\x02bc\x7f\xb5\x34\xbb"},
	} {
		if got := Bytes(c[0]); got != c[1] {
			t.Errorf("Bytes(%q): %q, want %q", c[0], got, c[1])
		}
	}
	for _, s := range someTexts() {
		if got := Bytes(s); got != plainBytes(s) {
			t.Errorf("Bytes of %d bytes: not those of crc.Frame of codec.Str", len(s))
		}
	}
}

// P7.1: a record is scanned as it was, be it longer than a log takes.
func TestScanOfOneRecord(t *testing.T) {
	for _, s := range someTexts() {
		checkScan(t, "one record", Bytes(s), []string{s}, len(Bytes(s)))
	}
}

// P7.1: records that stand one behind the other are scanned in that order, and the place is the one behind the last.
func TestScanOfManyRecords(t *testing.T) {
	var b strings.Builder
	list := someTexts()
	for i, s := range list {
		b.WriteString(Bytes(s))
		checkScan(t, "many records", b.String(), list[:i+1], b.Len())
	}
	checkScan(t, "records of no bytes", strings.Repeat(Bytes(""), 500), make([]string, 500), 2500)
}

// P7.1: no bytes have no records.
func TestScanOfNoBytes(t *testing.T) {
	checkScan(t, "no bytes", "", nil, 0)
}

// threeRecords: their bytes, with one among them that holds another one's.
func threeRecords() (list []string, b string) {
	list = []string{"a", "", "with " + Bytes("q") + " within"}
	return list, Bytes(list[0]) + Bytes(list[1]) + Bytes(list[2])
}

// countWithin: how many of the records are whole in the first n bytes, and where they end.
func countWithin(list []string, n int) (count, end int) {
	for _, s := range list {
		if end+len(Bytes(s)) > n {
			break
		}
		count++
		end += len(Bytes(s))
	}
	return count, end
}

// P7.1: bytes that are cut off have the records that are whole ahead of the cut.
func TestScanOfBytesCutOffAtEveryPlace(t *testing.T) {
	list, b := threeRecords()
	for n := range len(b) + 1 {
		count, end := countWithin(list, n)
		checkScan(t, "cut off", b[:n], list[:count], end)
	}
	long := Bytes(strings.Repeat("x", 1024))
	for n := range len(long) {
		checkScan(t, "a long one cut off", Bytes("a")+long[:n], []string{"a"}, 6)
	}
}

// P7.1: where a byte was changed the records end, whatever whole ones stand behind it.
func TestScanOfBytesWithOneChanged(t *testing.T) {
	list, b := threeRecords()
	for place := range len(b) {
		count, end := countWithin(list, place)
		for change := 1; change < 256; change++ {
			changed := []byte(b)
			changed[place] ^= byte(change)
			checkScan(t, "a byte changed", string(changed), list[:count], end)
		}
	}
}

// P7.1: a record whose number of bytes was changed, so that its first bytes are another one's, is that one.
func TestScanOfALengthThatIsChangedToAnother(t *testing.T) {
	inner := Bytes("q")
	b := []byte(Bytes(inner[1:] + "rest"))
	b[0] = inner[0]
	checkScan(t, "another length", string(b), []string{"q"}, len(inner))
}

// P7.1: bytes behind the last whole record are none, and those behind broken bytes aren't looked at.
func TestScanOfOtherBytesBehind(t *testing.T) {
	good := Bytes("q") + Bytes("rs")
	for i := range 256 {
		b := string([]byte{byte(i)})
		checkScan(t, "a byte behind", good+b, []string{"q", "rs"}, len(good))
		checkScan(t, "bytes behind", good+strings.Repeat(b, 3), []string{"q", "rs"}, len(good))
		checkScan(t, "a record behind a byte", good+b+Bytes("t"), []string{"q", "rs"}, len(good))
		checkScan(t, "a record behind a byte at the beginning", b+good, nil, 0)
	}
	checkScan(t, "rest", good+"rest", []string{"q", "rs"}, len(good))
	for n := 1; n < len(Bytes("cut")); n++ {
		torn := Bytes("cut")[:n]
		checkScan(t, "a record behind one that is cut off", good+torn+Bytes("t"), []string{"q", "rs"}, len(good))
		checkScan(t, "a record behind the end of one", good+Bytes("cut")[n:]+Bytes("t"), []string{"q", "rs"}, len(good))
	}
}

// P7.1: a frame that is whole is no record, if its text isn't just one text of codec.Str.
func TestScanOfFramesThatAreNoRecords(t *testing.T) {
	for _, text := range []string{
		"",                                 // not even how long
		"\x01",                             // shorter than it says
		"\x05abcd",                         // likewise
		"\x80",                             // how long it is ends amid the number
		"\x80\x00",                         // no bytes, told by more of them than need be
		"\x81\x00a",                        // a byte, likewise
		"\x81\x80\x00a",                    // likewise
		"\x00a",                            // a byte behind the text
		"\x01ab",                           // likewise
		"\x02abcdefgh",                     // several
		"\x01a\x01b",                       // a text behind the text
		strings.Repeat("\xff", 9) + "\x02", // beyond 64 bits
		strings.Repeat("\xff", 9) + "\x01", // the greatest number
		strings.Repeat("\xff", 8) + "\x7f", // the greatest int
		strings.Repeat("\x80", 9) + "\x01", // the least int, if it had a sign
		strings.Repeat("\xff", 12),         // no number
		strings.Repeat("\x80", 1000) + "\x00abcd", // likewise
	} {
		frame, _ := crc.Frame(text)
		checkScan(t, "no record", frame, nil, 0)
		checkScan(t, "no record", Bytes("a")+frame+Bytes("b"), []string{"a"}, 6)
	}
}

// P7.1: Scan of any bytes is what trying at each place finds.
func TestScanOfRowsOfPieces(t *testing.T) {
	r := rand.New(rand.NewSource(7))
	texts := someTexts()[:16]
	for range 20000 {
		var b []byte
		for range r.Intn(6) {
			b = append(b, Bytes(texts[r.Intn(len(texts))])...)
		}
		switch at := r.Intn(len(b) + 1); r.Intn(5) {
		case 0:
			b = b[:at]
		case 1:
			b = slices.Insert(b, at, byte(r.Intn(256)))
		case 2:
			b = b[at:]
		case 3:
			b = slices.Delete(b, at, min(at+1+r.Intn(7), len(b)))
		}
		want, far := plainScan(string(b))
		checkScan(t, "pieces", string(b), want, far)
	}
}

// P7.1: Scan takes no longer than there are bytes.
func TestScanOfVeryManyRecords(t *testing.T) {
	const count = 200000
	s := strings.Repeat(Bytes("a"), count)
	if list, good := Scan(s); len(list) != count || good != 6*count || list[count-1] != "a" {
		t.Errorf("Scan of %d records: %d, %d", count, len(list), good)
	}
}

// shares: whether one text lies within the other one's memory.
func shares(a, b string) bool {
	first, place := uintptr(unsafe.Pointer(unsafe.StringData(b))), uintptr(unsafe.Pointer(unsafe.StringData(a)))
	return len(a) > 0 && place >= first && place < first+uintptr(len(b))
}

// P7.1: what is answered is new memory.
func TestScanAndBytesAnswerNewMemory(t *testing.T) {
	s := strings.Clone(Bytes("first") + Bytes("second"))
	list, _ := Scan(s)
	for _, x := range list {
		if shares(x, s) {
			t.Errorf("%q is a piece of what was handed in", x)
		}
	}
	list[0] = "changed"
	checkScan(t, "again", s, []string{"first", "second"}, len(s))
	if text := strings.Clone("text"); shares(text, Bytes(text)) {
		t.Error("Bytes share memory with what was handed in")
	}
}
