package cron

import (
	"strings"

	"tompion/api"
)

// field: the places that a field may have in a text, and how they are called there.
type field struct {
	places span
	names  map[string]int
}

func fields() [fieldCount]field {
	return [fieldCount]field{
		{places: spans[minutes]},
		{places: spans[hours]},
		{places: spans[monthDays]},
		{spans[months], map[string]int{
			"jan": 1, "feb": 2, "mar": 3, "apr": 4, "may": 5, "jun": 6,
			"jul": 7, "aug": 8, "sep": 9, "oct": 10, "nov": 11, "dec": 12,
		}},
		{span{0, 7}, map[string]int{
			"sun": 0, "mon": 1, "tue": 2, "wed": 3, "thu": 4, "fri": 5, "sat": 6,
		}},
	}
}

// Parse: what a text says.
func Parse(s string) (api.Spec, api.Errno) {
	if len(s) > api.MaxText {
		return api.Spec{}, api.ErrBadCron
	}
	texts := strings.FieldsFunc(s, isBlank)
	if len(texts) < fieldCount || len(texts) > fieldCount+1 {
		return api.Spec{}, api.ErrBadCron
	}
	x, ok := parseFields(texts[:fieldCount])
	if ok && len(texts) > fieldCount {
		x.Ahead, ok = parseAhead(texts[fieldCount])
	}
	if !ok {
		return api.Spec{}, api.ErrBadCron
	}
	return x, api.OK
}

func isBlank(r rune) bool {
	return r == ' ' || r == '\t'
}

func parseFields(texts []string) (api.Spec, bool) {
	var said [fieldCount]uint64
	for i, f := range fields() {
		set, ok := f.parse(texts[i])
		if !ok {
			return api.Spec{}, false
		}
		said[i] = set
	}
	return api.Spec{
		Min:    said[minutes],
		Hour:   said[hours],
		Dom:    said[monthDays],
		Mon:    said[months],
		Dow:    week(said[weekdays]),
		AnyDom: isAny(texts[monthDays]),
		AnyDow: isAny(texts[weekdays]),
	}, true
}

// week: a set of places of the week as one of its days: the place 7 is the day 0.
func week(set uint64) uint64 {
	return (set | set>>7) & spans[weekdays].every(1)
}

func isAny(text string) bool {
	return strings.HasPrefix(text, "*")
}

// parse: the set that a field says.
func (f field) parse(text string) (uint64, bool) {
	var set uint64
	for _, part := range strings.Split(text, ",") {
		said, ok := f.parsePart(part)
		if !ok {
			return 0, false
		}
		set |= said
	}
	return set, true
}

// parsePart: the set that a part says.
func (f field) parsePart(part string) (uint64, bool) {
	from, stepText, stepped := strings.Cut(part, "/")
	step := 1
	if stepped {
		var ok bool
		if step, ok = parseNumber(stepText); !ok || step < 1 {
			return 0, false
		}
	}
	if from == "*" {
		return f.places.every(step), true
	}
	said, ok := f.parseRange(from, stepped)
	if !ok {
		return 0, false
	}
	return said.every(step), true
}

// parseRange: the places that are told one by one: two of them, or, unless a step is behind it, a single one.
func (f field) parseRange(text string, stepped bool) (span, bool) {
	first, last, two := strings.Cut(text, "-")
	if !two {
		place, ok := f.parsePlace(text)
		return span{place, place}, ok && !stepped
	}
	least, okFirst := f.parsePlace(first)
	greatest, okLast := f.parsePlace(last)
	return span{least, greatest}, okFirst && okLast && least <= greatest
}

// parsePlace: a place, told by its number or by its name.
func (f field) parsePlace(text string) (int, bool) {
	if number, ok := parseNumber(text); ok {
		return number, f.places.has(number)
	}
	number, ok := f.names[small(text)]
	return number, ok
}

// parseNumber: a number of one or two digits.
func parseNumber(text string) (int, bool) {
	if len(text) < 1 || len(text) > 2 {
		return 0, false
	}
	number := 0
	for i := range len(text) {
		if text[i] < '0' || text[i] > '9' {
			return 0, false
		}
		number = number*10 + int(text[i]-'0')
	}
	return number, true
}

// small: a text with its letters A to Z in the small size. strings.ToLower would make one of those out of letters of other alphabets, too.
func small(text string) string {
	letters := []byte(text)
	for i, letter := range letters {
		if letter >= 'A' && letter <= 'Z' {
			letters[i] = letter - 'A' + 'a'
		}
	}
	return string(letters)
}

// parseAhead: how many minutes the sixth field says.
func parseAhead(text string) (int, bool) {
	if len(text) != len("+0000") || text[0] != '+' && text[0] != '-' {
		return 0, false
	}
	hour, okHour := parseNumber(text[1:3])
	minute, okMinute := parseNumber(text[3:])
	if !okHour || !okMinute || hour > maxHours || minute >= hourMinutes {
		return 0, false
	}
	ahead := hour*hourMinutes + minute
	if text[0] == '-' {
		ahead = -ahead
	}
	return ahead, true
}
