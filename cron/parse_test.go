package cron

import (
	"math/rand"
	"regexp"
	"strconv"
	"strings"
	"testing"

	"tompion/api"
)

func mustParse(t *testing.T, s string) api.Spec {
	t.Helper()
	x, e := Parse(s)
	if e != api.OK {
		t.Fatalf("Parse(%q): %d", s, e)
	}
	return x
}

func checkParse(t *testing.T, s string, want api.Spec) {
	t.Helper()
	if x, e := Parse(s); x != want || e != api.OK {
		t.Errorf("Parse(%q): %+v, %d, want %+v, OK", s, x, e, want)
	}
}

func checkBad(t *testing.T, s string) {
	t.Helper()
	if x, e := Parse(s); x != (api.Spec{}) || e != api.ErrBadCron {
		t.Errorf("Parse(%q): %+v, %d, want nothing, ErrBadCron", s, x, e)
	}
}

// with: a text whose field of that number is the one given, and whose other ones are 1.
func with(field int, text string) string {
	texts := []string{"1", "1", "1", "1", "1"}
	texts[field] = text
	return strings.Join(texts, " ")
}

// checkField: what a field says, and whether it is any.
func checkField(t *testing.T, field int, text string, want uint64) {
	t.Helper()
	x := api.Spec{Min: 2, Hour: 2, Dom: 2, Mon: 2, Dow: 2}
	*setOf(&x, field) = want
	x.AnyDom = field == 2 && text[0] == '*'
	x.AnyDow = field == 4 && text[0] == '*'
	checkParse(t, with(field, text), x)
}

// P4.1: the document's examples.
func TestParseExamples(t *testing.T) {
	checkParse(t, "*/15 0-6/2 1,15 jan-mar mon", api.Spec{Min: bits(0, 15, 30, 45), Hour: bits(0, 2, 4, 6), Dom: bits(1, 15), Mon: bits(1, 2, 3), Dow: bits(1)})
	checkParse(t, "0 0 13 * 5", api.Spec{Min: bits(0), Hour: bits(0), Dom: bits(13), Mon: from(1, 12), Dow: bits(5)})
	checkParse(t, "* * * * *", api.Spec{Min: from(0, 59), Hour: from(0, 23), Dom: from(1, 31), Mon: from(1, 12), Dow: from(0, 6), AnyDom: true, AnyDow: true})
	checkBad(t, "60 * * * *")
}

// P4.1: blanks of both kinds, ahead, behind and between, and none of another kind.
func TestParseBlanks(t *testing.T) {
	want := api.Spec{Min: bits(1), Hour: bits(2), Dom: bits(3), Mon: bits(4), Dow: bits(5)}
	for _, s := range []string{
		"1 2 3 4 5", " 1 2 3 4 5", "1 2 3 4 5 ", "\t1 2 3 4 5\t", "1\t2\t3\t4\t5",
		"1  2   3    4     5", "1 \t2\t 3\t\t4 \t 5", " \t 1 2 3 4 5 \t ", "\t\t1\t2 3\t4 5  ",
	} {
		checkParse(t, s, want)
	}
	want.Ahead = -330
	for _, s := range []string{"1 2 3 4 5 -0530", "\t 1 2 3 4 5\t-0530\t ", "1 2 3 4 5  \t  -0530"} {
		checkParse(t, s, want)
	}
	for _, blank := range []string{"\n", "\r", "\v", "\f", "\x00", "\x1f", "\x85", "\xa0", "\u0085", "\u00a0", "\u2003", "\u3000", ",", "_"} {
		checkBad(t, "1"+blank+"2 3 4 5")
		checkBad(t, "1"+blank+" 2 3 4 5")
		checkBad(t, "1 2 3 4"+blank+"5")
		checkBad(t, blank+"1 2 3 4 5")
		checkBad(t, "1 2 3 4 5"+blank)
		checkBad(t, strings.Join([]string{"1", "2", "3", "4", "5"}, blank))
		checkBad(t, "1 2 3 4 5 -0530"+blank)
	}
}

// P4.1: a text has at most 256 bytes, its blanks with them.
func TestParseLength(t *testing.T) {
	want := api.Spec{Min: bits(1), Hour: bits(2), Dom: bits(3), Mon: bits(4), Dow: bits(5)}
	const text = "1 2 3 4 5"
	rest := strings.Repeat(" ", 256-len(text))
	ones := strings.Repeat("1,", 123) + "1 2 3 4 5 "
	twos := strings.Repeat("01,", 82) + "1 2 3 4 05"
	for _, s := range []string{rest + text, text + rest, "1 2 3" + rest + " 4 5", rest[:100] + text + rest[100:], ones, twos} {
		if len(s) != 256 {
			t.Fatalf("%q has %d bytes", s, len(s))
		}
		checkParse(t, s, want)
		checkBad(t, s+" ")
		checkBad(t, "\t"+s)
	}
	checkBad(t, "1,"+ones)
	checkBad(t, "0"+twos)
	checkBad(t, strings.Repeat(" ", 1<<20)+text)
	checkBad(t, strings.Repeat("1 ", 1<<20))
	checkBad(t, strings.Repeat("1,", 1<<20)+text)
}

// P4.1: no text at all, too few fields, and too many.
func TestParseCount(t *testing.T) {
	for _, s := range []string{"", " ", "\t", " \t ", strings.Repeat(" ", 256), "*", "* *", "* * *", "* * * *", " * * * * ", "* * * * * +0000 *", "* * * * * * *", "* * * * * +0000 +0000", "1 1 1 1 1 1", "* * * * * *", "1 1 1 1 1 1 1 1"} {
		checkBad(t, s)
	}
}

// P4.1: each number of each field, of one and of two digits; and no other number.
func TestParseNumbers(t *testing.T) {
	greatest := [5]int{59, 23, 31, 12, 7}
	for field, b := range bounds {
		for n := range 100 {
			short, two := strconv.Itoa(n), strconv.Itoa(n/10)+strconv.Itoa(n%10)
			for _, text := range []string{short, two} {
				if n < b[0] || n > greatest[field] {
					checkBad(t, with(field, text))
					checkBad(t, with(field, "1,"+text))
					checkBad(t, with(field, "1-"+text))
					checkBad(t, with(field, text+"-"+text))
					continue
				}
				want := n
				if field == 4 && n == 7 {
					want = 0
				}
				checkField(t, field, text, bits(want))
				checkField(t, field, text+"-"+text, bits(want))
				checkField(t, field, text+"-"+text+"/1", bits(want))
				checkField(t, field, text+"-"+text+"/99", bits(want))
			}
			checkBad(t, with(field, "0"+two))
			checkBad(t, with(field, "1"+two))
		}
		for _, text := range []string{"001", "010", "100", "256", "4294967297", "18446744073709551617", "1.0", "0x1", "1e0", "+1", "-1", "-0", "1_1", "a", "1a", "a1", "#1", "1:", "/", "٣", "１"} {
			checkBad(t, with(field, text))
		}
	}
}

// P4.1: names, in letters of either size, alone and in ranges, each in its own field alone.
func TestParseNames(t *testing.T) {
	names := map[int][]string{
		3: {"", "jan", "feb", "mar", "apr", "may", "jun", "jul", "aug", "sep", "oct", "nov", "dec"},
		4: {"sun", "mon", "tue", "wed", "thu", "fri", "sat"},
	}
	for own, list := range names {
		for n, name := range list {
			if name == "" {
				continue
			}
			for sizes := range 8 {
				sized := []byte(name)
				for i := range sized {
					if sizes>>i&1 == 1 {
						sized[i] -= 'a' - 'A'
					}
				}
				checkField(t, own, string(sized), bits(n))
				checkField(t, own, string(sized)+"-"+name, bits(n))
			}
			for field := range bounds {
				if field != own {
					checkBad(t, with(field, name))
					checkBad(t, with(field, "1,"+name))
				}
			}
			for m, other := range list {
				if other == "" {
					continue
				}
				for _, text := range []string{name + "-" + other, name + "-" + strconv.Itoa(m), strconv.Itoa(n) + "-" + other} {
					if m < n {
						checkBad(t, with(own, text))
					} else {
						checkField(t, own, text, from(n, m))
					}
				}
			}
			for _, wrong := range []string{name + "s", name[:2], name[1:], "x" + name, name + "1", "1" + name, name + "\x00", name + name, name + "/2", name + "-", "-" + name} {
				checkBad(t, with(own, wrong))
			}
		}
	}
	checkField(t, 3, "jan-mar,Oct,DEC", bits(1, 2, 3, 10, 12))
	checkField(t, 4, "mon-FRI/2", bits(1, 3, 5))
	checkField(t, 4, "fri-7", bits(0, 5, 6))
}

// P4.1: bytes of other letters are none of ours, though some are made into ours when their size is changed.
func TestParseOtherLetters(t *testing.T) {
	for _, text := range []string{"fr\u0130", "fr\u0131", "\u017fun", "\u017fat", "fr\xed", "fr\xc9", "\x13un", "s\x15n", "\x93un", "sun\xff", "\xffsun", "foo", "day", "monday", "su n"} {
		checkBad(t, with(4, text))
	}
	for _, text := range []string{"\u017fep", "\x0aan", "j\x01n", "january", "ja", "j", "JANU", "jän"} {
		checkBad(t, with(3, text))
	}
}

// P4.1: the place 7 of a day of the week counts as 7 in a range, and then as 0.
func TestParseSeven(t *testing.T) {
	for text, want := range map[string]uint64{
		"7": bits(0), "07": bits(0), "0,7": bits(0), "7,7": bits(0), "3,7": bits(0, 3),
		"7-7": bits(0), "6-7": bits(0, 6), "5-7": bits(0, 5, 6), "1-7": from(0, 6), "0-7": from(0, 6), "sun-7": from(0, 6), "sat-7": bits(0, 6),
		"7-7/1": bits(0), "7-7/99": bits(0), "5-7/2": bits(0, 5), "4-7/2": bits(4, 6), "1-7/2": bits(0, 1, 3, 5), "1-7/3": bits(0, 1, 4), "0-7/7": bits(0), "0-7/2": bits(0, 2, 4, 6), "2-7/5": bits(0, 2), "2-7/6": bits(2), "0-7/99": bits(0),
		"*": from(0, 6), "*/7": bits(0), "*/6": bits(0, 6), "*/1": from(0, 6),
	} {
		checkField(t, 4, text, want)
	}
	for _, text := range []string{"7-0", "7-1", "7-6", "7-sun", "7-sat", "7/2", "7-8", "8", "8-9", "0-8", "08", "17", "77", "007"} {
		checkBad(t, with(4, text))
	}
}

// P4.1: every step, from the first number on, behind a star and behind two places.
func TestParseSteps(t *testing.T) {
	for field, b := range bounds {
		for step := 1; step <= 99; step++ {
			for _, text := range []string{strconv.Itoa(step), strconv.Itoa(step/10) + strconv.Itoa(step%10)} {
				var all, some uint64
				for n := range 64 {
					if b[0] <= n && n <= b[1] && (n-b[0])%step == 0 {
						all |= 1 << n
					}
					if 2 <= n && n <= 6 && (n-2)%step == 0 {
						some |= 1 << n
					}
				}
				checkField(t, field, "*/"+text, all)
				checkField(t, field, "2-6/"+text, some)
			}
		}
		for _, step := range []string{"", "0", "00", "000", "100", "101", "001", "256", "999", "-1", "+1", "*", "a", "jan", "sun", "1/1", "1-2", "/1", "1/", " 1"} {
			checkBad(t, with(field, "*/"+step))
			checkBad(t, with(field, "2-6/"+step))
		}
		for _, text := range []string{"1/1", "1/2", "2/99", "01/1", "/", "/1", "1/", "*/", "2-6/", "1,2/2", "2/2,1"} {
			checkBad(t, with(field, text))
		}
	}
	checkBad(t, "1 1 1 jan/2 1")
	checkBad(t, "1 1 1 1 mon/2")
}

// P4.1: ranges, of which the first place isn't greater.
func TestParseRanges(t *testing.T) {
	for field, b := range bounds {
		for first := b[0]; first <= b[1]; first++ {
			for last := b[0]; last <= b[1]; last++ {
				text := strconv.Itoa(first) + "-" + strconv.Itoa(last)
				if first > last {
					checkBad(t, with(field, text))
					checkBad(t, with(field, text+"/1"))
				} else {
					checkField(t, field, text, from(first, last))
				}
			}
		}
		for _, text := range []string{"-", "1-", "-1", "1--2", "1-2-3", "1-2-", "-1-2", "*-5", "1-*", "*-*", "1-2/3-4", "1-2/2/2", "--"} {
			checkBad(t, with(field, text))
		}
	}
}

// P4.1: a field says all that its parts say together, and is any if it begins with a star.
func TestParseParts(t *testing.T) {
	for text, want := range map[string]uint64{
		"1,2": bits(1, 2), "2,1": bits(1, 2), "1,1": bits(1), "6,2-4": bits(2, 3, 4, 6), "2-4,6": bits(2, 3, 4, 6), "1-3,2-4": bits(1, 2, 3, 4),
		"1-5/2,2-6/4": bits(1, 2, 3, 5, 6), "1,2,3,4,5,6": from(1, 6), "5,5-6,06": bits(5, 6),
	} {
		for field := range bounds {
			checkField(t, field, text, want)
		}
	}
	for field, b := range bounds {
		all := from(b[0], b[1])
		for _, text := range []string{"*", "*,1", "*,*", "*/1", "1,*", "2-3,*", "1,*/1", "*/2,*", "2,*/99,*"} {
			checkField(t, field, text, all)
		}
		checkField(t, field, "*/99,3", bits(b[0], 3))
		checkField(t, field, "3,*/99", bits(b[0], 3))
		for _, text := range []string{",", ",1", "1,", "1,,2", "1,2,", ",,", "*,", ",*", "*,,*", "**", "*1", "1*", "*2", "*/2*", "*/*", "1;2", "1, 2", "?", "L", "W", "1L", "1#2", "@daily", "%"} {
			checkBad(t, with(field, text))
		}
	}
}

// P4.1: of the days, each field is any on its own; a star of another field makes no days any.
func TestParseAny(t *testing.T) {
	for text, want := range map[string][2]bool{
		"* * 1 * 1": {false, false}, "1 1 * 1 1": {true, false}, "1 1 1 1 *": {false, true}, "1 1 * 1 *": {true, true},
		"1 1 */2 1 1": {true, false}, "1 1 1 1 */2": {false, true}, "1 1 *,5 1 5,*": {true, false}, "1 1 5,* 1 *,5": {false, true},
		"1 1 1-31 1 0-6": {false, false}, "1 1 1-31/2 1 0-7": {false, false},
	} {
		if x := mustParse(t, text); [2]bool{x.AnyDom, x.AnyDow} != want {
			t.Errorf("%s: %v, %v, want %v", text, x.AnyDom, x.AnyDow, want)
		}
	}
}

// P4.1: the sixth field, with every four digits, with either sign and without.
func TestParseAhead(t *testing.T) {
	const text = "1 1 1 1 1 "
	want := api.Spec{Min: 2, Hour: 2, Dom: 2, Mon: 2, Dow: 2}
	for n := range 10000 {
		digits := strconv.Itoa(10000 + n)[1:]
		hour, minute := n/100, n%100
		if hour > 14 || minute > 59 {
			checkBad(t, text+"+"+digits)
			checkBad(t, text+"-"+digits)
		} else {
			want.Ahead = hour*60 + minute
			checkParse(t, text+"+"+digits, want)
			want.Ahead = -want.Ahead
			checkParse(t, text+"-"+digits, want)
		}
		checkBad(t, text+digits)
	}
	for text, ahead := range map[string]int{"+0000": 0, "-0000": 0, "+0001": 1, "-0001": -1, "+0530": 330, "+1400": 840, "+1459": 899, "-1459": -899} {
		if x := mustParse(t, "* * * * * "+text); x.Ahead != ahead {
			t.Errorf("%s: %d, want %d", text, x.Ahead, ahead)
		}
	}
	for _, sixth := range []string{"+", "-", "+0", "+00", "+000", "+00000", "+01000", "00000", "0100", "*0100", " 0100", "++100", "+-100", "+1-00", "+01:00", "+01.0", "+0a00", "+00a0", "+000a", "+a000", "+/000", "+:000", "+0/00", "+0:00", "+00/0", "+00:0", "+000/", "+000:", "Z", "UTC", "*", "+0100,", "+0100,+0100", "\xff0100", "+0100\x00", "±0100", "−0100", "+,1,0"} {
		checkBad(t, text+sixth)
	}
}

// P4.1: a byte that stands in no right text makes it none, wherever it stands.
func TestParseBytes(t *testing.T) {
	const text = "*/5 1-3 1,2 jan mon +0100"
	for b := range 256 {
		if strings.IndexByte(" \t*/-+,0123456789", byte(b)) >= 0 || b >= 'a' && b <= 'z' || b >= 'A' && b <= 'Z' {
			continue
		}
		for i := range len(text) + 1 {
			checkBad(t, text[:i]+string([]byte{byte(b)})+text[i:])
			if i < len(text) {
				checkBad(t, text[:i]+string([]byte{byte(b)})+text[i+1:])
			}
		}
	}
}

// P4.1: every byte at every place of a text, put in, put instead, or taken out, as the tests' other reader has it.
func TestParseByteByByte(t *testing.T) {
	for _, text := range []string{"*/5 1-3 1,2 jan mon +0100", "0-59/7 23 31 Dec-12 sun-7/2 -1459", "*,1 *\t*,2  * *", " 9 9 9 9 7 "} {
		for i := range len(text) + 1 {
			for b := range 256 {
				put := string([]byte{byte(b)})
				checkAsRead(t, text[:i]+put+text[i:])
				if i < len(text) {
					checkAsRead(t, text[:i]+put+text[i+1:])
				}
			}
			if i < len(text) {
				checkAsRead(t, text[:i]+text[i+1:])
			}
			checkAsRead(t, text[:i])
			checkAsRead(t, text[i:])
		}
	}
}

// P4.1: random texts, right and nearly right ones, as the tests' other reader has them.
func TestParseRandom(t *testing.T) {
	random := rand.New(rand.NewSource(1))
	right, wrong := 0, 0
	for range 60000 {
		s := randomText(random)
		for range random.Intn(3) {
			s = spoil(random, s)
		}
		checkAsRead(t, s)
		if _, e := Parse(s); e == api.OK {
			right++
		} else {
			wrong++
		}
	}
	if right < 10000 || wrong < 10000 {
		t.Fatalf("too few texts: %d right, %d wrong", right, wrong)
	}
}

// checkAsRead: that Parse answers what the tests' other reader reads.
func checkAsRead(t *testing.T, s string) {
	t.Helper()
	want, ok := readText(s)
	if ok && len(s) <= 256 {
		if x, e := Parse(s); x != want || e != api.OK {
			t.Fatalf("Parse(%q): %+v, %d, want %+v, OK", s, x, e, want)
		}
	} else if x, e := Parse(s); x != (api.Spec{}) || e != api.ErrBadCron {
		t.Fatalf("Parse(%q): %+v, %d, want nothing, ErrBadCron", s, x, e)
	}
}

// either: a pattern of those words, in letters of either size. (The pattern's own way to leave the size open would let other letters in.)
func either(words ...string) string {
	var all []string
	for _, word := range words {
		var one strings.Builder
		for _, letter := range word {
			one.WriteString("[" + string(letter) + strings.ToUpper(string(letter)) + "]")
		}
		all = append(all, one.String())
	}
	return strings.Join(all, "|")
}

var (
	monthNames = []string{"jan", "feb", "mar", "apr", "may", "jun", "jul", "aug", "sep", "oct", "nov", "dec"}
	dayNames   = []string{"sun", "mon", "tue", "wed", "thu", "fri", "sat"}
	places     = [5]string{
		"0?[0-9]|[1-5][0-9]",
		"0?[0-9]|1[0-9]|2[0-3]",
		"0?[1-9]|[12][0-9]|3[01]",
		"0?[1-9]|1[0-2]|" + either(monthNames...),
		"0?[0-7]|" + either(dayNames...),
	}
	wholeText = textPattern()
	onePart   = regexp.MustCompile(`^(?:\*|([0-9a-zA-Z]+)(?:-([0-9a-zA-Z]+))?)(?:/([0-9]+))?$`)
)

// textPattern: the form of a whole text, as one pattern: all but that the first place of a range isn't greater.
func textPattern() *regexp.Regexp {
	var fields []string
	for _, place := range places {
		place = "(?:" + place + ")"
		part := `(?:(?:\*|` + place + "-" + place + ")(?:/(?:0?[1-9]|[1-9][0-9]))?|" + place + ")"
		fields = append(fields, "("+part+"(?:,"+part+")*)")
	}
	return regexp.MustCompile(`^[ \t]*` + strings.Join(fields, `[ \t]+`) + `(?:[ \t]+([+-])(0[0-9]|1[0-4])([0-5][0-9]))?[ \t]*$`)
}

// readText: another reader, by patterns, of texts of any length.
func readText(s string) (api.Spec, bool) {
	m := wholeText.FindStringSubmatch(s)
	if m == nil {
		return api.Spec{}, false
	}
	x := api.Spec{AnyDom: m[3][0] == '*', AnyDow: m[5][0] == '*'}
	for field := range bounds {
		for _, part := range strings.Split(m[1+field], ",") {
			if !readPart(setOf(&x, field), field, part) {
				return api.Spec{}, false
			}
		}
	}
	hour, _ := strconv.Atoi(m[7])
	minute, _ := strconv.Atoi(m[8])
	x.Ahead = hour*60 + minute
	if m[6] == "-" {
		x.Ahead = -x.Ahead
	}
	return x, true
}

func readPart(set *uint64, field int, part string) bool {
	m := onePart.FindStringSubmatch(part)
	first, last, step := bounds[field][0], bounds[field][1], 1
	if m[1] != "" {
		first = readPlace(field, m[1])
		last = first
	}
	if m[2] != "" {
		last = readPlace(field, m[2])
	}
	if m[3] != "" {
		step, _ = strconv.Atoi(m[3])
	}
	for n := range 64 {
		if first <= n && n <= last && (n-first)%step == 0 {
			if field == 4 {
				n %= 7
			}
			*set |= 1 << n
		}
	}
	return first <= last
}

func readPlace(field int, text string) int {
	for i, name := range monthNames {
		if field == 3 && strings.EqualFold(name, text) {
			return i + 1
		}
	}
	for i, name := range dayNames {
		if field == 4 && strings.EqualFold(name, text) {
			return i
		}
	}
	n, _ := strconv.Atoi(text)
	return n
}

// randomText: a text that is mostly right.
func randomText(random *rand.Rand) string {
	blanks := func(least int) string {
		s := ""
		for range least + random.Intn(8)/7 {
			s += string(" \t"[random.Intn(8)/7])
		}
		return s
	}
	s := blanks(0)
	for field := range bounds {
		if field > 0 {
			s += blanks(1)
		}
		s += randomField(random, field)
	}
	if random.Intn(3) == 0 {
		digits := strconv.Itoa(10000 + 100*random.Intn(15) + random.Intn(60))
		s += blanks(1) + string("+-"[random.Intn(2)]) + digits[1:]
	}
	return s + blanks(0)
}

func randomField(random *rand.Rand, field int) string {
	if random.Intn(4) == 0 {
		return "*"
	}
	var parts []string
	for range 1 + random.Intn(3)*random.Intn(2) {
		parts = append(parts, randomPart(random, field))
	}
	return strings.Join(parts, ",")
}

func randomPart(random *rand.Rand, field int) string {
	least, greatest := bounds[field][0], bounds[field][1]
	if field == 4 {
		greatest = 7
	}
	first := least + random.Intn(greatest-least+1)
	last := first + random.Intn(greatest-first+1)
	if random.Intn(50) == 0 {
		first, last = last, first
	}
	s := randomPlace(random, field, first)
	switch random.Intn(4) {
	case 0:
		s = "*"
	case 1:
		return s
	default:
		s += "-" + randomPlace(random, field, last)
	}
	switch random.Intn(4) {
	case 0:
		s += "/" + strconv.Itoa(1+random.Intn(99))
	case 1:
		s += "/" + strconv.Itoa(1+random.Intn(5))
	}
	return s
}

func randomPlace(random *rand.Rand, field, n int) string {
	names := [5][]string{3: append([]string{""}, monthNames...), 4: dayNames}[field]
	if n < len(names) && random.Intn(2) == 0 {
		if random.Intn(2) == 0 {
			return strings.ToUpper(names[n])
		}
		return names[n]
	}
	if n < 10 && random.Intn(3) == 0 {
		return "0" + strconv.Itoa(n)
	}
	return strconv.Itoa(n)
}

// spoil: a text with one byte taken out, put in, or put instead.
func spoil(random *rand.Rand, s string) string {
	const bytes = " \t*/-+,0123456789janmonSUN\n\xff"
	i := random.Intn(len(s) + 1)
	put := string([]byte{bytes[random.Intn(len(bytes))]})
	switch {
	case random.Intn(3) == 0 || i == len(s):
		return s[:i] + put + s[i:]
	case random.Intn(2) == 0:
		return s[:i] + s[i+1:]
	}
	return s[:i] + put + s[i+1:]
}
