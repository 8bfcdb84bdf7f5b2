package stable

import (
	"math"
	"slices"
	"strings"
	"testing"
	"unsafe"

	"tompion/api"
)

// most: how many bytes a log may have.
const most = 65536

func checkAppend(t *testing.T, l *Log, s string, e api.Errno) {
	t.Helper()
	if got := l.Append(s); got != e {
		t.Errorf("Append of %d bytes: %d, want %d", len(s), got, e)
	}
}

func checkCrash(t *testing.T, l *Log, s string, keep int, e api.Errno) {
	t.Helper()
	if got := l.Crash(s, keep); got != e {
		t.Errorf("Crash of %d bytes, keep %d: %d, want %d", len(s), keep, got, e)
	}
}

// checkIs: which records there are, and how many bytes, the torn ones among them.
func checkIs(t *testing.T, l *Log, torn int, want ...string) {
	t.Helper()
	size := torn
	for _, s := range want {
		size += len(plainBytes(s))
	}
	if got := l.All(); !slices.Equal(got, want) {
		t.Errorf("All: %d records, want %d: %.40q, want %.40q", len(got), len(want), got, want)
	}
	if got := l.Size(); got != size {
		t.Errorf("Size: %d, want %d", got, size)
	}
}

func checkRecover(t *testing.T, l *Log, want ...string) {
	t.Helper()
	if got := l.Recover(); !slices.Equal(got, want) {
		t.Errorf("Recover: %d records, want %d: %.40q, want %.40q", len(got), len(want), got, want)
	}
	checkIs(t, l, 0, want...)
}

func text(n int) string { return strings.Repeat("t", n) }

// P7.2: New has no bytes, and each is one of its own.
func TestNewHasNone(t *testing.T) {
	l, other := New(), New()
	if l == nil || other == nil || l == other {
		t.Fatal("New answers no log of its own")
	}
	checkAppend(t, other, "a", api.OK)
	checkIs(t, l, 0)
	checkRecover(t, l)
}

// P7.2, P7.3: what is appended stands at the end, in that order, and Size counts its bytes.
func TestAppendPutsBytesAtTheEnd(t *testing.T) {
	l := New()
	var want []string
	for _, s := range someTexts() {
		if len(s) > 1024 {
			checkAppend(t, l, s, api.ErrLong)
			continue
		}
		checkAppend(t, l, s, api.OK)
		want = append(want, s)
		checkIs(t, l, 0, want...)
	}
	checkRecover(t, l, want...)
}

// P7.2: a record has 1024 bytes at most.
func TestLongRecords(t *testing.T) {
	l := New()
	checkAppend(t, l, "", api.OK)
	checkAppend(t, l, text(1024), api.OK)
	checkAppend(t, l, text(1025), api.ErrLong)
	checkAppend(t, l, text(70000), api.ErrLong)
	checkCrash(t, l, text(1025), 3, api.ErrLong)
	checkIs(t, l, 0, "", text(1024))
	checkAppend(t, l, "behind", api.OK)
	checkCrash(t, l, text(1024), 1030, api.OK)
	checkRecover(t, l, "", text(1024), "behind", text(1024))
}

// nearlyFull: a log in which there is room for the bytes of a record of 640 bytes, and for none more.
func nearlyFull() (*Log, []string) {
	l := New()
	var list []string
	for range 63 {
		list = append(list, text(1024))
		l.Append(text(1024))
	}
	return l, list
}

// P7.2: a log comes to 65536 bytes, and no further.
func TestFullLog(t *testing.T) {
	l, list := nearlyFull()
	checkIs(t, l, 0, list...)
	checkAppend(t, l, text(641), api.ErrFull)
	checkAppend(t, l, text(1024), api.ErrFull)
	checkIs(t, l, 0, list...)
	checkAppend(t, l, text(640), api.OK)
	if l.Size() != most {
		t.Fatalf("Size: %d, want %d", l.Size(), most)
	}
	checkAppend(t, l, "", api.ErrFull)
	checkCrash(t, l, "", 0, api.ErrFull)
	checkRecover(t, l, append(list, text(640))...)
	checkAppend(t, l, "", api.ErrFull)
}

// P7.2: a record that was refused leaves room for shorter ones, to the last byte.
func TestShorterRecordsBehindOneThatWasRefused(t *testing.T) {
	l, list := nearlyFull()
	for n := 1024; n > 640; n -= 7 {
		checkAppend(t, l, text(n), api.ErrFull)
	}
	checkAppend(t, l, text(635), api.OK) // and 5 bytes are left
	checkAppend(t, l, "x", api.ErrFull)
	checkAppend(t, l, "", api.OK)
	checkIs(t, l, 0, append(list, text(635), "")...)
	if l.Size() != most {
		t.Errorf("Size: %d, want %d", l.Size(), most)
	}
}

// P7.2: Crash asks for room for all bytes, whichever it keeps, and a refused one is no crash.
func TestCrashInAFullLog(t *testing.T) {
	for _, keep := range []int{math.MinInt, -1, 0, 1, 646, 647, math.MaxInt} {
		l, list := nearlyFull()
		checkCrash(t, l, text(641), keep, api.ErrFull)
		checkIs(t, l, 0, list...)
		checkCrash(t, l, text(640), keep, api.OK)
		checkAppend(t, l, "", api.ErrState)
		if keep > 645 {
			checkRecover(t, l, append(list, text(640))...)
			checkAppend(t, l, "", api.ErrFull)
			continue
		}
		checkIs(t, l, max(keep, 0), list...)
		checkRecover(t, l, list...)
		checkAppend(t, l, text(640), api.OK)
	}
}

// P7.2: of several errors the first one that the document names is answered, and none of them changes anything.
func TestWhichErrorIsAnswered(t *testing.T) {
	l, list := nearlyFull()
	checkAppend(t, l, text(1025), api.ErrLong) // and ErrFull
	checkCrash(t, l, text(1025), 1, api.ErrLong)
	checkCrash(t, l, text(640), 645, api.OK)
	for range 2 {
		checkAppend(t, l, text(1025), api.ErrLong) // and ErrState, and ErrFull
		checkCrash(t, l, text(1025), 1, api.ErrLong)
		checkAppend(t, l, text(1024), api.ErrState) // and ErrFull
		checkCrash(t, l, text(1024), 1, api.ErrState)
		checkAppend(t, l, "", api.ErrState)
		checkCrash(t, l, "", 0, api.ErrState)
		checkCrash(t, l, "", 5, api.ErrState)
		checkIs(t, l, 645, list...)
	}
	checkRecover(t, l, list...)
}

// keeps: how many bytes a crash may be told to keep of a record's, and how many it keeps.
func keeps(s string) [][2]int {
	all := len(plainBytes(s))
	list := [][2]int{{math.MinInt, 0}, {math.MinInt32, 0}, {-1, 0}, {all + 1, all}, {2 * all, all}, {1 << 32, all}, {math.MaxInt, all}}
	for n := range all + 1 {
		list = append(list, [2]int{n, n})
	}
	return list
}

// P7.2, P7.3, P7.4: a crash keeps the first bytes; behind it All answers what is whole, and Recover cuts off what isn't.
func TestCrashKeepsTheFirstBytes(t *testing.T) {
	for _, s := range []string{"", "bc", Bytes("q"), "\x00" + Bytes("q"), text(200)} {
		for _, ahead := range [][]string{nil, {"a"}, {"a", "", "c"}} {
			for _, k := range keeps(s) {
				crashOnce(t, ahead, s, k[0], k[1])
			}
		}
	}
}

func crashOnce(t *testing.T, ahead []string, s string, keep, kept int) {
	t.Helper()
	l := New()
	for _, a := range ahead {
		checkAppend(t, l, a, api.OK)
	}
	want, torn := ahead, kept
	if kept == len(plainBytes(s)) {
		want, torn = append(slices.Clone(ahead), s), 0
	}
	checkCrash(t, l, s, keep, api.OK)
	checkIs(t, l, torn, want...)
	checkAppend(t, l, "x", api.ErrState)
	checkCrash(t, l, "x", 6, api.ErrState)
	checkIs(t, l, torn, want...)
	checkRecover(t, l, want...)
	checkRecover(t, l, want...)
	checkAppend(t, l, "y", api.OK)
	checkIs(t, l, 0, append(slices.Clone(want), "y")...)
}

// P7.2, P7.3: the document's example.
func TestExampleOfACrash(t *testing.T) {
	l := New()
	checkAppend(t, l, "a", api.OK)
	whole := l.Copy()
	checkCrash(t, l, "bc", 3, api.OK)
	checkRecover(t, l, "a")
	checkCrash(t, whole, "bc", len(Bytes("bc")), api.OK)
	checkRecover(t, whole, "a", "bc")
}

// P7.3: Recover without a crash changes nothing, and answers all.
func TestRecoverWithoutACrash(t *testing.T) {
	l := New()
	checkRecover(t, l)
	checkAppend(t, l, "a", api.OK)
	checkRecover(t, l, "a")
	checkRecover(t, l, "a")
	checkAppend(t, l, "b", api.OK)
	checkCrash(t, l, "c", 0, api.OK)
	checkRecover(t, l, "a", "b")
}

// P7.3: a crash that kept nothing, or all, has to be recovered from, too; All and Copy don't do that.
func TestOnlyRecoverEndsACrash(t *testing.T) {
	for _, keep := range []int{-1, 0, 3, 6, 7} {
		l := New()
		checkCrash(t, l, "a", keep, api.OK)
		l.All()
		l.Size()
		l.Copy().Recover()
		checkAppend(t, l, "b", api.ErrState)
		checkCrash(t, l, "b", 6, api.ErrState)
		l.Recover()
		checkAppend(t, l, "b", api.OK)
		checkCrash(t, l, "c", 6, api.OK)
	}
}

// P7.4: behind several crashes there is what was appended and, whole, what a crash kept.
func TestSeveralCrashesInOneLog(t *testing.T) {
	l := New()
	var want []string
	for i := range 40 {
		s := text(i)
		checkAppend(t, l, s, api.OK)
		want = append(want, s)
		all := len(Bytes("lost or kept"))
		keep := []int{-1, 0, 1, all - 1, all, all + 1}[i%6]
		checkCrash(t, l, "lost or kept", keep, api.OK)
		if keep >= all {
			want = append(want, "lost or kept")
		}
		checkRecover(t, l, want...)
	}
}

// P7.4: a shorter record behind a recovered crash has none of the bytes that were cut off behind it.
func TestShorterRecordBehindACrash(t *testing.T) {
	l := New()
	checkCrash(t, l, Bytes("q")+Bytes("r")+Bytes("s"), 15, api.OK)
	checkIs(t, l, 15)
	checkRecover(t, l)
	checkAppend(t, l, "", api.OK)
	checkIs(t, l, 0, "")
	checkCrash(t, l, "t", 1, api.OK)
	checkIs(t, l, 1, "")
	checkRecover(t, l, "")
}

// P7.3: a copy has the same, and neither knows what is done to the other one.
func TestCopiesKnowNothingOfEachOther(t *testing.T) {
	l := New()
	checkAppend(t, l, "a", api.OK)
	c := l.Copy()
	checkIs(t, c, 0, "a")
	checkAppend(t, l, "of the one", api.OK)
	checkAppend(t, c, "of the other", api.OK)
	checkIs(t, l, 0, "a", "of the one")
	checkIs(t, c, 0, "a", "of the other")
	checkCrash(t, l, "gone", 4, api.OK)
	checkAppend(t, c, "on", api.OK)
	checkIs(t, l, 4, "a", "of the one")
	checkRecover(t, l, "a", "of the one")
	checkIs(t, c, 0, "a", "of the other", "on")
	checkIs(t, New().Copy(), 0)
}

// P7.3: a copy of a log that has crashed has crashed, too, and each is recovered from by itself.
func TestCopyOfALogThatHasCrashed(t *testing.T) {
	l := New()
	checkAppend(t, l, "a", api.OK)
	checkCrash(t, l, "bcd", 5, api.OK)
	c := l.Copy()
	checkIs(t, c, 5, "a")
	checkAppend(t, c, "x", api.ErrState)
	checkCrash(t, c, "x", 1, api.ErrState)
	checkRecover(t, c, "a")
	checkAppend(t, c, "of the copy", api.OK)
	checkAppend(t, l, "x", api.ErrState)
	checkIs(t, l, 5, "a")
	again := l.Copy()
	checkRecover(t, l, "a")
	checkAppend(t, l, "y", api.OK)
	checkAppend(t, again, "x", api.ErrState)
	checkIs(t, again, 5, "a")
	checkIs(t, c, 0, "a", "of the copy")
	checkIs(t, l, 0, "a", "y")
}

// P7.3: a copy counts its bytes, as the log did.
func TestCopyOfAFullLog(t *testing.T) {
	l, list := nearlyFull()
	c := l.Copy()
	checkAppend(t, c, text(641), api.ErrFull)
	checkAppend(t, c, text(640), api.OK)
	checkAppend(t, c, "", api.ErrFull)
	checkIs(t, l, 0, list...)
	checkAppend(t, l, "", api.OK)
}

// P7.3: calls of a nil *Log.
func TestNilLog(t *testing.T) {
	var l *Log
	for _, s := range []string{"", "a", text(1025), text(70000)} {
		checkAppend(t, l, s, api.ErrNil)
		for _, keep := range []int{math.MinInt, -1, 0, 1, math.MaxInt} {
			checkCrash(t, l, s, keep, api.ErrNil)
		}
	}
	if l.Recover() != nil || l.All() != nil || l.Size() != 0 || l.Copy() != nil {
		t.Error("a nil *Log has something")
	}
}

// Rule 1: a Log that New didn't make is as one that it made.
func TestLogThatNewDidNotMake(t *testing.T) {
	var l Log
	checkIs(t, &l, 0)
	checkIs(t, l.Copy(), 0)
	checkRecover(t, &l)
	checkAppend(t, &l, "a", api.OK)
	checkCrash(t, &l, "b", 2, api.OK)
	checkAppend(t, &l, "c", api.ErrState)
	checkRecover(t, &l, "a")
	l = Log{}
	checkCrash(t, &l, "b", math.MaxInt, api.OK)
	checkRecover(t, &l, "b")
}

// Rule 5: a list that is answered is new memory.
func TestAnswersAreNewMemory(t *testing.T) {
	l := New()
	checkAppend(t, l, "a", api.OK)
	checkAppend(t, l, "b", api.OK)
	for _, ask := range []func() []string{l.All, l.Recover, l.All} {
		list := ask()
		list[0] = "changed"
		_ = append(list[:1], "changed")
		checkIs(t, l, 0, "a", "b")
	}
	first, second := l.All(), l.Recover()
	first[1] = "changed"
	if second[1] != "b" {
		t.Error("two answers share memory")
	}
}

// Rule 5: what is handed in isn't kept.
func TestWhatIsHandedInIsNotKept(t *testing.T) {
	l := New()
	own := []byte("first")
	s := unsafe.String(&own[0], len(own))
	checkAppend(t, l, s, api.OK)
	copy(own, "other")
	checkIs(t, l, 0, "first")
	checkCrash(t, l, s, 99, api.OK)
	copy(own, "third")
	checkRecover(t, l, "first", "other")
}
