package cron

import (
	"strconv"
	"strings"

	"tompion/api"
)

// Text: a text that says it; empty, if there is none.
func Text(x api.Spec) string {
	if !Right(x) {
		return ""
	}
	monthDaysText := daysText(x.Dom, x.AnyDom, spans[monthDays])
	weekdaysText := daysText(x.Dow, x.AnyDow, spans[weekdays])
	if monthDaysText == "" || weekdaysText == "" {
		return ""
	}
	texts := []string{numbersText(x.Min), numbersText(x.Hour), monthDaysText, numbersText(x.Mon), weekdaysText}
	if x.Ahead != 0 {
		texts = append(texts, aheadText(x.Ahead))
	}
	return strings.Join(texts, " ")
}

func daysText(set uint64, anyOnes bool, days span) string {
	if anyOnes {
		return anyText(set, days)
	}
	return numbersText(set)
}

// numbersText: the numbers of a set, rising.
func numbersText(set uint64) string {
	var numbers []string
	for number := range setBits {
		if has(set, number) {
			numbers = append(numbers, strconv.Itoa(number))
		}
	}
	return strings.Join(numbers, ",")
}

// anyText: days that are any, by the least step that says them; empty, if none does.
func anyText(set uint64, days span) string {
	if set == days.every(1) {
		return "*"
	}
	for step := 2; step <= maxStep; step++ {
		if set == days.every(step) {
			return "*/" + strconv.Itoa(step)
		}
	}
	return ""
}

func aheadText(ahead int) string {
	sign := "+"
	if ahead < 0 {
		sign, ahead = "-", -ahead
	}
	return sign + twoDigits(ahead/hourMinutes) + twoDigits(ahead%hourMinutes)
}

func twoDigits(number int) string {
	if number < 10 {
		return "0" + strconv.Itoa(number)
	}
	return strconv.Itoa(number)
}
