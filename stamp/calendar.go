package stamp

// firstYear is the one that times begin with.
const firstYear = 1970

// monthsAhead is how many days of a year that is no leap year are ahead of
// each month, and ahead of the next year.
var monthsAhead = [13]int{0, 31, 59, 90, 120, 151, 181, 212, 243, 273, 304, 334, 365}

func isLeap(year int) bool {
	return year%4 == 0 && (year%100 != 0 || year%400 == 0)
}

// leapsAhead is how many leap years there are from year 0 on, ahead of that year.
func leapsAhead(year int) int {
	return (year+3)/4 - (year+99)/100 + (year+399)/400
}

// yearsAhead is how many days there are from the first year on, ahead of that
// year; below 0, of one that comes before it.
func yearsAhead(year int) int {
	return 365*(year-firstYear) + leapsAhead(year) - leapsAhead(firstYear)
}

// daysAhead is how many days of the year are ahead of that month, from 1 on; of
// the month 13, all of them.
func daysAhead(year, month int) int {
	days := monthsAhead[month-1]
	if month > 2 && isLeap(year) {
		days++
	}
	return days
}

// lastOf is the last day of that month.
func lastOf(year, month int) int {
	return daysAhead(year, month+1) - daysAhead(year, month)
}

// date is the date that so many days are ahead of, from the first year on.
func date(days int) (year, month, dayInMonth int) {
	year = firstYear + days/366 // never too late: no year is longer
	for yearsAhead(year+1) <= days {
		year++
	}
	days -= yearsAhead(year)
	month = 1
	for daysAhead(year, month+1) <= days {
		month++
	}
	return year, month, days - daysAhead(year, month) + 1
}
