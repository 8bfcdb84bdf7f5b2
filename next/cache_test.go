package next

import (
	"math"
	"strconv"
	"strings"
	"sync"
	"testing"

	"tompion/api"
	"tompion/cron"
)

func checkCache(t *testing.T, c *Cache, text string, after, at int, e api.Errno) {
	t.Helper()
	if got, err := c.Next(text, after); got != at || err != e {
		t.Errorf("Next(%q, %d): %d, %d, want %d, %d", text, after, got, err, at, e)
	}
}

func checkCounts(t *testing.T, c *Cache, asked, parsed int) {
	t.Helper()
	if a, p := c.Counts(); a != asked || p != parsed {
		t.Errorf("Counts: %d, %d, want %d, %d", a, p, asked, parsed)
	}
}

// refused: texts that say no times.
func refused() []string {
	return []string{"", " ", "* * *", "60 * * * *", "* * * * * *", "0 0 0 1 *", "* * * * 8", "* * * * * +1500", "\x00", "\xff\xfe", strings.Repeat(" ", api.MaxText) + "* * * * *", strings.Repeat("9", 1<<16)}
}

// P5.3: none was asked of a new one.
func TestNewCache(t *testing.T) {
	c := New()
	if c == nil {
		t.Fatal("nil")
	}
	checkCounts(t, c, 0, 0)
	checkCounts(t, c, 0, 0)
}

// P5.3: a text that is asked again is parsed once, whatever is asked of it.
func TestTextAskedAgain(t *testing.T) {
	c := New()
	for i := range 5 {
		checkCache(t, c, "* * * * *", 5, 60, api.OK)
		checkCounts(t, c, i+1, 1)
	}
	checkCache(t, c, "* * * * *", -1, 0, api.OK)
	checkCache(t, c, "* * * * *", math.MinInt, 0, api.OK)
	checkCache(t, c, "* * * * *", 0, 60, api.OK)
	checkCache(t, c, "* * * * *", 60, 120, api.OK)
	checkCache(t, c, "* * * * *", last-60, lastMinute, api.OK)
	checkCache(t, c, "* * * * *", lastMinute, 0, api.ErrNone)
	checkCache(t, c, "* * * * *", math.MaxInt, 0, api.ErrNone)
	checkCounts(t, c, 12, 1)
}

// P5.3: each of several texts is parsed once; texts that say the same are several.
func TestSeveralTexts(t *testing.T) {
	c := New()
	texts := []string{"0 0 * * *", "0 0 * * * ", " 0 0 * * *", "0\t0 * * *", "00 00 * * *", "0 0 * * 0-6", "0 0 * * * +0000"}
	for range 3 {
		for _, text := range texts {
			checkCache(t, c, text, 5, day, api.OK)
		}
	}
	checkCounts(t, c, 3*len(texts), len(texts))
	checkCache(t, c, "0 0 29 2 *", at(2001, 1, 1, 0, 0), at(2004, 2, 29, 0, 0), api.OK)
	checkCache(t, c, "30 10 * * * +0100", 0, 9*3600+1800, api.OK)
	checkCache(t, c, "0 0 29 2 *", at(2096, 3, 1, 0, 0), at(2104, 2, 29, 0, 0), api.OK)
	checkCounts(t, c, 3*len(texts)+3, len(texts)+2)
}

// P5.3: texts that are refused count, and are parsed once, too.
func TestRefusedTexts(t *testing.T) {
	c := New()
	for round := range 3 {
		for i, text := range refused() {
			for _, after := range []int{5, -1, math.MinInt, math.MaxInt, last} {
				checkCache(t, c, text, after, 0, api.ErrBadCron)
			}
			parsed := len(refused())
			if round == 0 {
				parsed = i + 1
			}
			checkCounts(t, c, (round*len(refused())+i+1)*5, parsed)
		}
	}
}

// P5.3: a text whose times are over, or that has none, isn't refused.
func TestTextWithoutTimes(t *testing.T) {
	c := New()
	checkCache(t, c, "0 0 30 2 *", 0, 0, api.ErrNone)
	checkCache(t, c, "0 0 30 2 *", math.MinInt, 0, api.ErrNone)
	checkCache(t, c, "59 23 31 12 *", lastMinute-1, lastMinute, api.OK)
	checkCache(t, c, "59 23 31 12 *", lastMinute, 0, api.ErrNone)
	checkCache(t, c, "59 23 31 12 *", lastMinute-1, lastMinute, api.OK)
	checkCounts(t, c, 5, 2)
}

// P5.3: a cache answers as its text's spec does.
func TestCacheIsNextOfTheSpec(t *testing.T) {
	c := New()
	for _, text := range []string{"0 0 13 * 5", "*/15 0-6/2 1,15 jan-mar mon", "0 0 29 2 */7", "1 2 3 4 5 -1459", "0 0 31 2 *"} {
		x, e := cron.Parse(text)
		if e != api.OK {
			t.Fatal(text, e)
		}
		for _, after := range append(beyond(), 0, 59, 60, at(2024, 2, 28, 23, 59), at(9990, 1, 1, 0, 0), last) {
			want := api.OK
			second, ok := Next(x, after)
			if !ok {
				want = api.ErrNone
			}
			checkCache(t, c, text, after, second, want)
		}
	}
}

// P5.3: two caches know nothing of each other.
func TestTwoCaches(t *testing.T) {
	one, two := New(), New()
	checkCache(t, one, "* * * * *", 5, 60, api.OK)
	checkCounts(t, two, 0, 0)
	checkCache(t, two, "* * * * *", 5, 60, api.OK)
	checkCache(t, two, "?", 5, 0, api.ErrBadCron)
	checkCounts(t, one, 1, 1)
	checkCounts(t, two, 2, 2)
}

// P5.3: of a nil *Cache.
func TestNilCache(t *testing.T) {
	var c *Cache
	for _, text := range append(refused(), "* * * * *", "0 0 30 2 *") {
		for _, after := range []int{0, -1, math.MinInt, math.MaxInt} {
			checkCache(t, c, text, after, 0, api.ErrNil)
		}
	}
	checkCounts(t, c, 0, 0)
}

// P5.3: a Cache that New didn't make panics at nothing (DOC.md, rule 1).
func TestCacheOfItsOwn(t *testing.T) {
	var c Cache
	checkCounts(t, &c, 0, 0)
	checkCache(t, &c, "* * * * *", 5, 60, api.OK)
	checkCache(t, &c, "* * *", 5, 0, api.ErrBadCron)
	checkCounts(t, &c, 2, 2)
}

// together: runs what several do, all of them let off at the same moment.
func together(several int, do func(who int)) {
	var all sync.WaitGroup
	gate := make(chan struct{})
	for who := range several {
		all.Add(1)
		go func() {
			defer all.Done()
			<-gate
			do(who)
		}()
	}
	close(gate)
	all.Wait()
}

// P5.3: one text, asked by several at the same time, is parsed once; each of them is answered.
func TestOneTextTogether(t *testing.T) {
	for _, text := range []struct {
		text string
		at   int
		e    api.Errno
	}{{"* * * * *", 60, api.OK}, {"* * *", 0, api.ErrBadCron}, {"0 0 30 2 *", 0, api.ErrNone}} {
		for range 200 {
			c := New()
			together(16, func(int) { checkCache(t, c, text.text, 5, text.at, text.e) })
			checkCounts(t, c, 16, 1)
		}
	}
}

// P5.3: many texts, each asked by several in another order, refused ones among them.
func TestManyTextsTogether(t *testing.T) {
	const several, times = 16, 180
	for range 10 {
		c := New()
		together(several, func(who int) {
			for i := range times {
				n := (i*7 + who*11) % times
				if n < 60 {
					checkCache(t, c, strconv.Itoa(n)+" 0 1 1 *", -1, 60*n, api.OK)
				} else {
					checkCache(t, c, strconv.Itoa(n)+" 0 1 1 *", -1, 0, api.ErrBadCron)
				}
			}
		})
		checkCounts(t, c, several*times, times)
	}
}

// P5.3: counts that are looked at meanwhile never fall, and no text is counted that nobody asked for.
func TestCountsMeanwhile(t *testing.T) {
	c := New()
	together(8, func(who int) {
		before, known := 0, 0
		for i := range 500 {
			checkCache(t, c, strconv.Itoa(i%60)+" * * * *", -1, i%60*60, api.OK)
			asked, parsed := c.Counts()
			if asked <= before || parsed < known || asked < i+1 || asked > 8*500 || parsed > 60 {
				t.Errorf("Counts: %d, %d behind %d, %d", asked, parsed, before, known)
			}
			before, known = asked, parsed
		}
	})
	checkCounts(t, c, 8*500, 60)
}
