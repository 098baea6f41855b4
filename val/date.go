package val

import (
	"strings"

	"cabinetry/api"
)

const blankStamp = "        "

// daysBefore is how many days of a common year lie before each month.
var daysBefore = [13]int{0, 31, 59, 90, 120, 151, 181, 212, 243, 273, 304, 334, 365}

func isLeap(y int) bool {
	return y%4 == 0 && y%100 != 0 || y%400 == 0
}

// before is how many days of the year y lie before the month m (13: all of them).
func before(y, m int) int {
	n := daysBefore[m-1]
	if m > 2 && isLeap(y) {
		n++
	}
	return n
}

func monthLength(y, m int) int {
	return before(y, m+1) - before(y, m)
}

// yearStart is the number of the last day before the year y.
func yearStart(y int) int {
	y--
	return 365*y + y/4 - y/100 + y/400
}

func isDay(day int) bool {
	return day >= 0 && day <= api.MaxDate
}

// Days returns the number of the day of a date.
func Days(y, m, d int) (int, api.Errno) {
	if y < 1 || y > 9999 || m < 1 || m > 12 || d < 1 || d > monthLength(y, m) {
		return 0, api.ErrArg
	}
	return yearStart(y) + before(y, m) + d, api.OK
}

// Split returns the year, month and day of a Date.
func Split(day int) (int, int, int, api.Errno) {
	if !isDay(day) {
		return 0, 0, 0, api.ErrArg
	}
	y, m, d := split(day)
	return y, m, d, api.OK
}

func split(day int) (int, int, int) {
	if day == 0 {
		return 0, 0, 0
	}
	y := day/366 + 1 // never too late a year, as no year is longer
	for y < 9999 && yearStart(y+1) < day {
		y++
	}
	day -= yearStart(y)
	m := 1
	for before(y, m+1) < day {
		m++
	}
	return y, m, day - before(y, m)
}

// Weekday returns 1 (Sunday) to 7.
func Weekday(day int) (int, api.Errno) {
	if !isDay(day) {
		return 0, api.ErrArg
	}
	if day == 0 {
		return 0, api.OK
	}
	return day%7 + 1, api.OK
}

// Months returns the day n months later.
func Months(day, n int) (int, api.Errno) {
	if !isDay(day) {
		return 0, api.ErrArg
	}
	if day == 0 {
		return 0, api.OK
	}
	const all = 9999 * 12
	if n < -all || n > all {
		return 0, api.ErrArg
	}
	y, m, d := split(day)
	months := y*12 + m - 1 + n
	if months < 12 || months >= all+12 {
		return 0, api.ErrArg
	}
	y, m = months/12, months%12+1
	return Days(y, m, min(d, monthLength(y, m)))
}

// Stamp returns the text YYYYMMDD.
func Stamp(day int) (string, api.Errno) {
	if !isDay(day) {
		return "", api.ErrArg
	}
	return stamp(day), api.OK
}

func stamp(day int) string {
	if day == 0 {
		return blankStamp
	}
	y, m, d := split(day)
	return digits(y, 4) + digits(m, 2) + digits(d, 2)
}

// digits writes a number with zeros in front.
func digits(n, width int) string {
	s := decimal(n)
	return strings.Repeat("0", width-len(s)) + s
}

// Unstamp returns the day of a text that Stamp makes.
func Unstamp(s string) (int, bool) {
	if s == blankStamp {
		return 0, true
	}
	if len(s) != len(blankStamp) {
		return 0, false
	}
	for i := range len(s) {
		if !isDigit(s[i]) {
			return 0, false
		}
	}
	day, e := Days(Val(s[:4]), Val(s[4:6]), Val(s[6:]))
	return day, e == api.OK
}
