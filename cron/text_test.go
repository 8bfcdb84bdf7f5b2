package cron

import (
	"strconv"
	"strings"
	"testing"

	"tompion/api"
)

func checkText(t *testing.T, x api.Spec, want string) {
	t.Helper()
	if got := Text(x); got != want {
		t.Errorf("Text(%+v): %q, want %q", x, got, want)
	}
}

// upTo: the numbers from one to another one, with commas between.
func upTo(first, last int) string {
	var all []string
	for n := first; n <= last; n++ {
		all = append(all, strconv.Itoa(n))
	}
	return strings.Join(all, ",")
}

// P4.2: each field its numbers, rising, with commas between, and one blank between the fields.
func TestTextPlain(t *testing.T) {
	checkText(t, plain(), "0 0 1 1 0")
	checkText(t, api.Spec{Min: bits(0, 15, 30, 45), Hour: bits(0, 2, 4, 6), Dom: bits(1, 15), Mon: bits(1, 2, 3), Dow: bits(1)}, "0,15,30,45 0,2,4,6 1,15 1,2,3 1")
	checkText(t, api.Spec{Min: bits(0, 59), Hour: bits(0, 23), Dom: bits(1, 31), Mon: bits(1, 12), Dow: bits(0, 6)}, "0,59 0,23 1,31 1,12 0,6")
	checkText(t, api.Spec{Min: from(0, 59), Hour: 1, Dom: 2, Mon: 2, Dow: 1}, upTo(0, 59)+" 0 1 1 0")
	checkText(t, api.Spec{Min: 1, Hour: from(0, 23), Dom: 2, Mon: 2, Dow: 1}, "0 "+upTo(0, 23)+" 1 1 0")
	checkText(t, api.Spec{Min: 1, Hour: 1, Dom: from(1, 31), Mon: 2, Dow: 1}, "0 0 "+upTo(1, 31)+" 1 0")
	checkText(t, api.Spec{Min: 1, Hour: 1, Dom: 2, Mon: from(1, 12), Dow: 1}, "0 0 1 "+upTo(1, 12)+" 0")
	checkText(t, api.Spec{Min: 1, Hour: 1, Dom: 2, Mon: 2, Dow: from(0, 6)}, "0 0 1 1 "+upTo(0, 6))
}

// P4.2: each number of each field.
func TestTextNumbers(t *testing.T) {
	for field, b := range bounds {
		for n := b[0]; n <= b[1]; n++ {
			x := plain()
			*setOf(&x, field) = 1 << n
			texts := []string{"0", "0", "1", "1", "0"}
			texts[field] = strconv.Itoa(n)
			checkText(t, x, strings.Join(texts, " "))
		}
	}
}

// P4.2: a spec that isn't right has no text, whatever of it isn't.
func TestTextNotRight(t *testing.T) {
	checkText(t, api.Spec{}, "")
	checkText(t, api.Spec{AnyDom: true, AnyDow: true, Ahead: 60}, "")
	for field, b := range bounds {
		for _, set := range []uint64{0, 1 << (b[1] + 1), 1<<(b[1]+1) | 1<<b[0], 1 << 63} {
			for _, flags := range anyFlags {
				x := plain()
				x.AnyDom, x.AnyDow = flags[0], flags[1]
				*setOf(&x, field) = set
				checkText(t, x, "")
			}
		}
	}
	x := plain()
	x.Dom = from(0, 31)
	checkText(t, x, "")
	x = plain()
	x.Dow, x.AnyDow = from(0, 7), true
	checkText(t, x, "")
}

// P4.2: any days of the week, each set of them: a star, a step, or no text.
func TestTextAnyWeek(t *testing.T) {
	told := map[uint64]string{
		from(0, 6): "*", bits(0, 2, 4, 6): "*/2", bits(0, 3, 6): "*/3", bits(0, 4): "*/4", bits(0, 5): "*/5", bits(0, 6): "*/6", bits(0): "*/7",
	}
	for set := uint64(1); set < 1<<7; set++ {
		x := plain()
		x.Dow, x.AnyDow = set, true
		if days := told[set]; days != "" {
			checkText(t, x, "0 0 1 1 "+days)
		} else {
			checkText(t, x, "")
		}
		x.AnyDow, x.AnyDom = false, true
		x.Dom = from(1, 31)
		if text := Text(x); !strings.HasPrefix(text, "0 0 * 1 ") || strings.Contains(text[8:], "*") {
			t.Errorf("Text(%+v): %q", x, text)
		}
	}
}

// P4.2: any days of the month: a star, the least step, or no text.
func TestTextAnyMonth(t *testing.T) {
	for step := 1; step <= 99; step++ {
		x := plain()
		x.Dom, x.AnyDom = 0, true
		for day := 1; day <= 31; day += step {
			x.Dom |= 1 << day
		}
		days := "*/" + strconv.Itoa(min(step, 31))
		if step == 1 {
			days = "*"
		}
		checkText(t, x, "0 0 "+days+" 1 0")
		x.AnyDom = false
		if text := Text(x); strings.Contains(text, "*") || text == "" {
			t.Errorf("Text(%+v): %q", x, text)
		}
	}
	for _, set := range []uint64{bits(2), bits(31), from(2, 31), from(1, 30), bits(1, 2), bits(2, 4, 6), bits(1, 3), bits(1, 4, 6), bits(1, 11, 21), bits(1, 11, 21, 30), bits(1, 11, 21, 30, 31)} {
		x := plain()
		x.Dom, x.AnyDom = set, true
		checkText(t, x, "")
	}
	for day := 2; day <= 31; day++ {
		x := plain()
		x.Dom, x.AnyDom = from(1, 31)&^(1<<day), true
		checkText(t, x, "")
	}
}

// P4.2: days that are any, both fields of them: one without a text leaves the whole without.
func TestTextBothAny(t *testing.T) {
	for _, c := range []struct {
		dom, dow uint64
		want     string
	}{
		{from(1, 31), from(0, 6), "0 0 * 1 *"},
		{bits(1, 11, 21, 31), from(0, 6), "0 0 */10 1 *"},
		{from(1, 31), bits(0, 2, 4, 6), "0 0 * 1 */2"},
		{bits(1), bits(0), "0 0 */31 1 */7"},
		{bits(1, 31), bits(0, 6), "0 0 */30 1 */6"},
		{bits(1, 2), from(0, 6), ""},
		{from(1, 31), bits(0, 1), ""},
		{bits(1, 2), bits(0, 1), ""},
	} {
		x := plain()
		x.Dom, x.Dow, x.AnyDom, x.AnyDow = c.dom, c.dow, true, true
		checkText(t, x, c.want)
		x.Ahead = -1
		if c.want != "" {
			c.want += " -0001"
		}
		checkText(t, x, c.want)
	}
}

// P4.2: the sixth field, if the clock is ahead or behind.
func TestTextAhead(t *testing.T) {
	for ahead, want := range map[int]string{
		0: "", 1: " +0001", -1: " -0001", 9: " +0009", 10: " +0010", 59: " +0059", 60: " +0100", 61: " +0101", -59: " -0059", -60: " -0100", -61: " -0101",
		330: " +0530", -210: " -0330", 599: " +0959", 600: " +1000", 840: " +1400", 899: " +1459", -899: " -1459", -600: " -1000", -599: " -0959",
	} {
		x := plain()
		x.Ahead = ahead
		checkText(t, x, "0 0 1 1 0"+want)
	}
	for ahead := -899; ahead <= 899; ahead++ {
		x := plain()
		x.Ahead = ahead
		checkParse(t, Text(x), x)
	}
	for _, ahead := range []int{900, -900, 901, -901, 1 << 40, -1 << 40} {
		x := plain()
		x.Ahead = ahead
		checkText(t, x, "")
	}
}

// P4.2: a text may be longer than one that may be parsed: 256 bytes still may.
func TestTextLong(t *testing.T) {
	x := mustParse(t, "* * * * *")
	long := upTo(0, 59) + " " + upTo(0, 23) + " * " + upTo(1, 12) + " *"
	checkText(t, x, long)
	checkBad(t, long)
	x.Min &^= bits(9, 59)
	if text := Text(x); len(text) != 257 {
		t.Errorf("%q has %d bytes", text, len(text))
	}
	checkBad(t, Text(x))
	x.Min |= bits(9)
	x.Min &^= bits(58)
	if text := Text(x); len(text) != 256 {
		t.Errorf("%q has %d bytes", text, len(text))
	}
	checkParse(t, Text(x), x)
	full := api.Spec{Min: from(0, 59), Hour: from(0, 23), Dom: from(1, 31), Mon: from(1, 12), Dow: from(0, 6), Ahead: -899}
	long = strings.Join([]string{upTo(0, 59), upTo(0, 23), upTo(1, 31), upTo(1, 12), upTo(0, 6), "-1459"}, " ")
	checkText(t, full, long)
	checkBad(t, long)
}
