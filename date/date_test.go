package date_test

import (
	"fmt"
	"math"
	"regexp"
	"strings"
	"testing"
	"time"

	"ragpicker/api"
	"ragpicker/date"
)

// last is api.LastSecond, written out.
const last = 253402300799

// form is the form of a text, by another means than the program's.
var form = regexp.MustCompile(`\A[0-9]{4}-[0-9]{2}-[0-9]{2}T[0-9]{2}:[0-9]{2}:[0-9]{2}\z`)

// civil is a Civil from its six numbers.
func civil(year, month, day, hour, min, sec int) date.Civil {
	return date.Civil{Year: year, Month: month, Day: day, Hour: hour, Min: min, Sec: sec}
}

// clock is a Civil as package time has it, which carries what is too great to the next field.
func clock(c date.Civil) time.Time {
	return time.Date(c.Year, time.Month(c.Month), c.Day, c.Hour, c.Min, c.Sec, 0, time.UTC)
}

// wantOf is Of told by package time.
func wantOf(sec int) (date.Civil, api.Errno) {
	if sec < 0 || sec > last {
		return date.Civil{}, api.ErrRange
	}
	t := time.Unix(int64(sec), 0).UTC()
	return civil(t.Year(), int(t.Month()), t.Day(), t.Hour(), t.Minute(), t.Second()), api.OK
}

// wantText is Text told by package time.
func wantText(sec int) (string, api.Errno) {
	if sec < 0 || sec > last {
		return "", api.ErrRange
	}
	return time.Unix(int64(sec), 0).UTC().Format("2006-01-02T15:04:05"), api.OK
}

// wantSeconds is Seconds told by package time: there is such a time if nothing is carried.
func wantSeconds(c date.Civil) (int, api.Errno) {
	for _, n := range []int{c.Year, c.Month, c.Day, c.Hour, c.Min, c.Sec} {
		// Before package time sees them: its own arithmetic wraps round.
		if n < 0 || n > 9999 {
			return 0, api.ErrForm
		}
	}
	t := clock(c)
	if t.Year() != c.Year || int(t.Month()) != c.Month || t.Day() != c.Day || t.Hour() != c.Hour || t.Minute() != c.Min || t.Second() != c.Sec {
		return 0, api.ErrForm
	}
	if t.Unix() < 0 {
		return 0, api.ErrRange
	}
	return int(t.Unix()), api.OK
}

// wantParse is Parse told by a regular expression and package time.
func wantParse(s string) (int, api.Errno) {
	if !form.MatchString(s) {
		return 0, api.ErrForm
	}
	var c date.Civil
	fmt.Sscanf(s, "%4d-%2d-%2dT%2d:%2d:%2d", &c.Year, &c.Month, &c.Day, &c.Hour, &c.Min, &c.Sec)
	return wantSeconds(c)
}

// told holds the answers of Of and Text for sec against what P5.2 says of them.
func told(t *testing.T, sec int) {
	t.Helper()
	c, e := date.Of(sec)
	if want, why := wantOf(sec); c != want || e != why {
		t.Errorf("Of(%d) = %v, %d, want %v, %d", sec, c, e, want, why)
	}
	s, e := date.Text(sec)
	if want, why := wantText(sec); s != want || e != why {
		t.Errorf("Text(%d) = %q, %d, want %q, %d", sec, s, e, want, why)
	}
}

// counted holds the answer of Seconds for c against what P5.2 says of it.
func counted(t *testing.T, c date.Civil) {
	t.Helper()
	n, e := date.Seconds(c)
	if want, why := wantSeconds(c); n != want || e != why {
		t.Errorf("Seconds(%v) = %d, %d, want %d, %d", c, n, e, want, why)
	}
}

// parsed holds the answer of Parse for s against what P5.2 says of it.
func parsed(t *testing.T, s string) {
	t.Helper()
	n, e := date.Parse(s)
	if want, why := wantParse(s); n != want || e != why {
		t.Errorf("Parse(%.40q), %d bytes, = %d, %d, want %d, %d", s, len(s), n, e, want, why)
	}
}

// follows holds the ways back from Of(sec) and from Text(sec) against sec.
func follows(t *testing.T, sec int) {
	t.Helper()
	c, _ := date.Of(sec)
	if n, e := date.Seconds(c); n != sec || e != api.OK {
		t.Errorf("Seconds(Of(%d)) = %d, %d", sec, n, e)
	}
	s, _ := date.Text(sec)
	if n, e := date.Parse(s); n != sec || e != api.OK {
		t.Errorf("Parse(Text(%d)) = %d, %d", sec, n, e)
	}
}

// ends are the seconds at and beside the beginning and the end of each month of some years, leap years and others.
func ends() []int {
	var l []int
	for _, y := range []int{1970, 1971, 1972, 1999, 2000, 2001, 2023, 2024, 2038, 2096, 2100, 2104, 2200, 2300, 2400, 4000, 8000, 9600, 9900, 9996, 9999} {
		for m := 1; m <= 12; m++ {
			from := int(clock(civil(y, m, 1, 0, 0, 0)).Unix())
			to := int(clock(civil(y, m+1, 1, 0, 0, 0)).Unix())
			l = append(l, from, from+1, to-2, to-1)
		}
	}
	return l
}

// P5.1: Leap.
func TestLeap(t *testing.T) {
	for _, c := range []struct {
		y    int
		want bool
	}{
		{1970, false}, {1971, false}, {1972, true}, {1973, false}, {2023, false}, {2024, true}, {2025, false}, {2026, false},
		{4, true}, {8, true}, {1, false}, {2, false}, {3, false}, {96, true}, {100, false}, {104, true}, {200, false}, {300, false}, {400, true}, {800, true}, {1000, false}, {1600, true},
		{1700, false}, {1800, false}, {1900, false}, {2000, true}, {2100, false}, {2400, true}, {9996, true}, {9999, false}, {10000, true}, {10100, false},
		{0, true}, {-1, false}, {-2, false}, {-3, false}, {-4, true}, {-96, true}, {-99, false}, {-100, false}, {-104, true}, {-200, false}, {-300, false}, {-400, true}, {-401, false}, {-2000, true},
		{math.MinInt, true}, {math.MinInt + 1, false}, {math.MinInt + 4, true}, {-9223372036854775800, false}, {-9223372036854775600, true},
		{math.MaxInt, false}, {math.MaxInt - 1, false}, {math.MaxInt - 3, true}, {9223372036854775800, false}, {9223372036854775600, true}, {9223372036854775500, false},
	} {
		if got := date.Leap(c.y); got != c.want {
			t.Errorf("Leap(%d) = %t, want %t", c.y, got, c.want)
		}
	}
}

// P5.1: of 400 years 97 are leap years, wherever they begin.
func TestLeapAll(t *testing.T) {
	leaps := 0
	for y := -12000; y < 12000; y++ {
		got := date.Leap(y)
		if want := time.Date(y, 2, 29, 0, 0, 0, 0, time.UTC).Day() == 29; got != want {
			t.Errorf("Leap(%d) = %t, want %t", y, got, want)
		}
		if got {
			leaps++
		}
	}
	if leaps != 97*60 {
		t.Errorf("%d leap years", leaps)
	}
}

// P5.1: Days.
func TestDays(t *testing.T) {
	common := [12]int{31, 28, 31, 30, 31, 30, 31, 31, 30, 31, 30, 31}
	leap := [12]int{31, 29, 31, 30, 31, 30, 31, 31, 30, 31, 30, 31}
	years := map[int][12]int{
		1: common, 4: leap, 0: leap, 100: common, 400: leap, 1900: common, 1970: common, 1972: leap, 2000: leap, 2023: common, 2024: leap, 2100: common, 9996: leap, 9999: common, 10000: leap,
		-1: common, -4: leap, -100: common, -400: leap, math.MinInt: leap, math.MinInt + 1: common, math.MaxInt: common, math.MaxInt - 3: leap,
	}
	for y, want := range years {
		for i, n := range want {
			if got := date.Days(y, i+1); got != n {
				t.Errorf("Days(%d, %d) = %d, want %d", y, i+1, got, n)
			}
		}
	}
}

// P5.1: the months that are none have no days.
func TestDaysWrong(t *testing.T) {
	months := []int{math.MinInt, math.MinInt + 1, math.MinInt + 2, math.MaxInt, math.MaxInt - 1, 1 << 32, 1<<32 + 1, 1<<32 + 2, 256, 257, 258}
	for m := -1000; m <= 1000; m++ {
		if m < 1 || m > 12 {
			months = append(months, m)
		}
	}
	for _, y := range []int{math.MinInt, -1, 0, 1, 1970, 2000, 2023, 9999, math.MaxInt} {
		for _, m := range months {
			if got := date.Days(y, m); got != 0 {
				t.Errorf("Days(%d, %d) = %d, want 0", y, m, got)
			}
		}
	}
}

// P5.2: Of and Text of the seconds that there are, and Seconds and Parse the other way.
func TestTimes(t *testing.T) {
	for _, c := range []struct {
		sec  int
		c    date.Civil
		text string
	}{
		{0, civil(1970, 1, 1, 0, 0, 0), "1970-01-01T00:00:00"},
		{1, civil(1970, 1, 1, 0, 0, 1), "1970-01-01T00:00:01"},
		{59, civil(1970, 1, 1, 0, 0, 59), "1970-01-01T00:00:59"},
		{60, civil(1970, 1, 1, 0, 1, 0), "1970-01-01T00:01:00"},
		{3599, civil(1970, 1, 1, 0, 59, 59), "1970-01-01T00:59:59"},
		{3600, civil(1970, 1, 1, 1, 0, 0), "1970-01-01T01:00:00"},
		{86399, civil(1970, 1, 1, 23, 59, 59), "1970-01-01T23:59:59"},
		{86400, civil(1970, 1, 2, 0, 0, 0), "1970-01-02T00:00:00"},
		{2678399, civil(1970, 1, 31, 23, 59, 59), "1970-01-31T23:59:59"},
		{2678400, civil(1970, 2, 1, 0, 0, 0), "1970-02-01T00:00:00"},
		{31535999, civil(1970, 12, 31, 23, 59, 59), "1970-12-31T23:59:59"},
		{31536000, civil(1971, 1, 1, 0, 0, 0), "1971-01-01T00:00:00"},
		{68169599, civil(1972, 2, 28, 23, 59, 59), "1972-02-28T23:59:59"},
		{68169600, civil(1972, 2, 29, 0, 0, 0), "1972-02-29T00:00:00"},
		{68255999, civil(1972, 2, 29, 23, 59, 59), "1972-02-29T23:59:59"},
		{68256000, civil(1972, 3, 1, 0, 0, 0), "1972-03-01T00:00:00"},
		{951782400, civil(2000, 2, 29, 0, 0, 0), "2000-02-29T00:00:00"},
		{978307199, civil(2000, 12, 31, 23, 59, 59), "2000-12-31T23:59:59"},
		{1234567890, civil(2009, 2, 13, 23, 31, 30), "2009-02-13T23:31:30"},
		{2147483647, civil(2038, 1, 19, 3, 14, 7), "2038-01-19T03:14:07"},
		{2147483648, civil(2038, 1, 19, 3, 14, 8), "2038-01-19T03:14:08"},
		{4107542399, civil(2100, 2, 28, 23, 59, 59), "2100-02-28T23:59:59"},
		{4107542400, civil(2100, 3, 1, 0, 0, 0), "2100-03-01T00:00:00"},
		{4294967296, civil(2106, 2, 7, 6, 28, 16), "2106-02-07T06:28:16"},
		{253370764800, civil(9999, 1, 1, 0, 0, 0), "9999-01-01T00:00:00"},
		{253402300799, civil(9999, 12, 31, 23, 59, 59), "9999-12-31T23:59:59"},
	} {
		if got, e := date.Of(c.sec); got != c.c || e != api.OK {
			t.Errorf("Of(%d) = %v, %d, want %v, 0", c.sec, got, e, c.c)
		}
		if got, e := date.Seconds(c.c); got != c.sec || e != api.OK {
			t.Errorf("Seconds(%v) = %d, %d, want %d, 0", c.c, got, e, c.sec)
		}
		if got, e := date.Text(c.sec); got != c.text || e != api.OK {
			t.Errorf("Text(%d) = %q, %d, want %q, 0", c.sec, got, e, c.text)
		}
		if got, e := date.Parse(c.text); got != c.sec || e != api.OK {
			t.Errorf("Parse(%q) = %d, %d, want %d, 0", c.text, got, e, c.sec)
		}
	}
}

// P5.2: the seconds that are out of range; beside the error there is no time and no text.
func TestOfWrong(t *testing.T) {
	for _, sec := range []int{-1, -2, -59, -60, -86399, -86400, -86401, -last, math.MinInt, math.MinInt + 1, math.MinInt32, last + 1, last + 2, last + 86400, 2 * last, 1 << 62, math.MaxInt - 1, math.MaxInt} {
		if c, e := date.Of(sec); c != (date.Civil{}) || e != api.ErrRange {
			t.Errorf("Of(%d) = %v, %d, want zeros, %d", sec, c, e, api.ErrRange)
		}
		if s, e := date.Text(sec); s != "" || e != api.ErrRange {
			t.Errorf("Text(%d) = %q, %d, want \"\", %d", sec, s, e, api.ErrRange)
		}
	}
}

// P5.2: the first and the last second of each month, each second of a day, and seconds all over the range.
func TestOfAll(t *testing.T) {
	for _, sec := range ends() {
		told(t, sec)
	}
	for sec := range 86402 {
		told(t, sec)
		told(t, 951782400+sec)
		told(t, last+1-sec)
	}
	for sec := 0; sec <= last; sec += 1000003 {
		told(t, sec)
	}
}

// P5.2: each day there is, counted one by one.
func TestDaysInTurn(t *testing.T) {
	sec := 0
	for y := 1970; y <= 9999; y++ {
		for m := 1; m <= 12; m++ {
			for d := 1; d <= date.Days(y, m); d++ {
				if c, e := date.Of(sec); c != civil(y, m, d, 0, 0, 0) || e != api.OK {
					t.Fatalf("Of(%d) = %v, %d, want the beginning of %d-%d-%d", sec, c, e, y, m, d)
				}
				if n, e := date.Seconds(civil(y, m, d, 0, 0, 0)); n != sec || e != api.OK {
					t.Fatalf("Seconds at the beginning of %d-%d-%d = %d, %d, want %d", y, m, d, n, e, sec)
				}
				sec += 86400
				if c, e := date.Of(sec - 1); c != civil(y, m, d, 23, 59, 59) || e != api.OK {
					t.Fatalf("Of(%d) = %v, %d, want the end of %d-%d-%d", sec-1, c, e, y, m, d)
				}
			}
		}
	}
	if sec != last+1 {
		t.Errorf("the year 9999 ends with second %d", sec-1)
	}
}

// P5.2: each field of Seconds at its least and its greatest value.
func TestSeconds(t *testing.T) {
	for _, c := range []struct {
		c    date.Civil
		want int
	}{
		{civil(1970, 7, 15, 12, 30, 30), 16893030}, {civil(9999, 7, 15, 12, 30, 30), 253387657830},
		{civil(2000, 1, 15, 12, 30, 30), 947939430}, {civil(2000, 12, 15, 12, 30, 30), 976883430},
		{civil(2000, 7, 1, 12, 30, 30), 962454630}, {civil(2000, 7, 31, 12, 30, 30), 965046630}, {civil(2000, 4, 30, 12, 30, 30), 957097830}, {civil(2000, 2, 29, 12, 30, 30), 951827430}, {civil(2001, 2, 28, 12, 30, 30), 983363430},
		{civil(2000, 7, 15, 0, 30, 30), 963621030}, {civil(2000, 7, 15, 23, 30, 30), 963703830},
		{civil(2000, 7, 15, 12, 0, 30), 963662430}, {civil(2000, 7, 15, 12, 59, 30), 963665970},
		{civil(2000, 7, 15, 12, 30, 0), 963664200}, {civil(2000, 7, 15, 12, 30, 59), 963664259},
	} {
		if got, e := date.Seconds(c.c); got != c.want || e != api.OK {
			t.Errorf("Seconds(%v) = %d, %d, want %d, 0", c.c, got, e, c.want)
		}
	}
}

// P5.2: a field that is one beyond, or far beyond; beside the error there is no number.
func TestSecondsWrong(t *testing.T) {
	l := []date.Civil{
		{},
		civil(2001, 2, 29, 12, 30, 30), civil(2100, 2, 29, 12, 30, 30), civil(2000, 2, 30, 12, 30, 30), civil(2000, 4, 31, 12, 30, 30), civil(2000, 6, 31, 0, 0, 0), civil(2000, 9, 31, 0, 0, 0), civil(2000, 11, 31, 0, 0, 0),
		civil(9999, 12, 31, 23, 59, 60), civil(9999, 12, 31, 24, 0, 0), civil(9999, 12, 32, 0, 0, 0), civil(1970, 1, 0, 23, 59, 59), civil(1970, 0, 31, 23, 59, 59), civil(1970, 1, 1, 0, 0, -1),
	}
	far := []int{math.MinInt, math.MinInt + 1, math.MinInt32, -1, 10000, 1 << 32, 1<<32 + 1, math.MaxInt - 1, math.MaxInt}
	for _, n := range append(far, -2, -10000, 10001, 19999) {
		l = append(l, civil(n, 7, 15, 12, 30, 30))
	}
	for _, n := range append(far, 0, 13, 14, 99) {
		l = append(l, civil(2000, n, 15, 12, 30, 30))
	}
	for _, n := range append(far, 0, 32, 33, 99) {
		l = append(l, civil(2000, 7, n, 12, 30, 30))
	}
	for _, n := range append(far, 24, 25, 99) {
		l = append(l, civil(2000, 7, 15, n, 30, 30))
	}
	for _, n := range append(far, 60, 61, 99) {
		l = append(l, civil(2000, 7, 15, 12, n, 30), civil(2000, 7, 15, 12, 30, n))
	}
	for _, c := range l {
		if got, e := date.Seconds(c); got != 0 || e != api.ErrForm {
			t.Errorf("Seconds(%v) = %d, %d, want 0, %d", c, got, e, api.ErrForm)
		}
	}
}

// P5.2: a date before 1970 is out of range only where all of it is right.
func TestSecondsBefore(t *testing.T) {
	for _, c := range []date.Civil{
		civil(1969, 12, 31, 23, 59, 59), civil(1969, 1, 1, 0, 0, 0), civil(0, 1, 1, 0, 0, 0), civil(0, 12, 31, 23, 59, 59), civil(0, 2, 29, 0, 0, 0), civil(1, 1, 1, 0, 0, 0), civil(4, 2, 29, 12, 0, 0), civil(400, 2, 29, 0, 0, 0), civil(1600, 2, 29, 0, 0, 0), civil(1900, 2, 28, 0, 0, 0), civil(1968, 2, 29, 23, 59, 59),
	} {
		if got, e := date.Seconds(c); got != 0 || e != api.ErrRange {
			t.Errorf("Seconds(%v) = %d, %d, want 0, %d", c, got, e, api.ErrRange)
		}
	}
	for _, y := range []int{0, 1, 100, 1900, 1969} {
		for _, c := range []date.Civil{
			civil(y, 0, 1, 0, 0, 0), civil(y, 13, 1, 0, 0, 0), civil(y, 1, 0, 0, 0, 0), civil(y, 1, 32, 0, 0, 0), civil(y, 2, 30, 0, 0, 0), civil(y, 4, 31, 0, 0, 0),
			civil(y, 1, 1, -1, 0, 0), civil(y, 1, 1, 24, 0, 0), civil(y, 1, 1, 0, -1, 0), civil(y, 1, 1, 0, 60, 0), civil(y, 1, 1, 0, 0, -1), civil(y, 12, 31, 23, 59, 60),
		} {
			if got, e := date.Seconds(c); got != 0 || e != api.ErrForm {
				t.Errorf("Seconds(%v) = %d, %d, want 0, %d", c, got, e, api.ErrForm)
			}
		}
	}
	for _, c := range []date.Civil{civil(1969, 2, 29, 0, 0, 0), civil(1900, 2, 29, 0, 0, 0), civil(1, 2, 29, 0, 0, 0), civil(-1, 12, 31, 23, 59, 59), civil(-4, 2, 29, 0, 0, 0)} {
		if got, e := date.Seconds(c); got != 0 || e != api.ErrForm {
			t.Errorf("Seconds(%v) = %d, %d, want 0, %d", c, got, e, api.ErrForm)
		}
	}
}

// P5.2: all the ways in which the fields can lie at and beside their ends at the same time.
func TestSecondsAll(t *testing.T) {
	for _, y := range []int{-1, 0, 1900, 1968, 1969, 1970, 1972, 2000, 2023, 2100, 9999, 10000} {
		for m := -1; m <= 14; m++ {
			for d := -1; d <= 33; d++ {
				for _, h := range []int{-1, 0, 12, 23, 24} {
					for _, i := range []int{-1, 0, 59, 60} {
						for _, s := range []int{-1, 0, 59, 60} {
							counted(t, civil(y, m, d, h, i, s))
						}
					}
				}
			}
		}
	}
}

// P5.2: zeros ahead in each of the six numbers, and nowhere else.
func TestZerosAhead(t *testing.T) {
	for _, c := range []struct {
		s    string
		want int
	}{
		{"2001-01-10T10:10:10", 979121410}, {"2001-10-01T10:10:10", 1001931010}, {"2001-10-10T01:10:10", 1002676210}, {"2001-10-10T10:01:10", 1002708070}, {"2001-10-10T10:10:01", 1002708601},
		{"2001-09-09T09:09:09", 1000026549}, {"2008-08-08T08:08:08", 1218182888}, {"2010-10-10T10:10:10", 1286705410}, {"2000-01-01T00:00:00", 946684800}, {"2099-11-30T20:50:40", 4099755040},
	} {
		if got, e := date.Parse(c.s); got != c.want || e != api.OK {
			t.Errorf("Parse(%q) = %d, %d, want %d, 0", c.s, got, e, c.want)
		}
		if got, e := date.Text(c.want); got != c.s || e != api.OK {
			t.Errorf("Text(%d) = %q, %d, want %q, 0", c.want, got, e, c.s)
		}
	}
	// A year with zeros ahead is one of the form.
	for _, s := range []string{"0000-01-01T00:00:00", "0001-01-01T00:00:00", "0010-10-10T10:10:10", "0100-12-31T23:59:59", "0999-06-30T12:00:00", "0004-02-29T00:00:00", "0000-02-29T00:00:00"} {
		if got, e := date.Parse(s); got != 0 || e != api.ErrRange {
			t.Errorf("Parse(%q) = %d, %d, want 0, %d", s, got, e, api.ErrRange)
		}
	}
}

// P5.2: the texts that have another form, or numbers that are out of range; beside the error there is no number.
func TestParseWrong(t *testing.T) {
	for _, s := range []string{
		"", " ", "T", "-", "0", "2", "20", "2000", "2000-", "2000-02", "2000-02-", "2000-02-29", "2000-02-29T", "2000-02-29T01", "2000-02-29T01:", "2000-02-29T01:02", "2000-02-29T01:02:",
		"2000-02-29T01:02:0", "000-02-29T01:02:03", "2000-02-29T01:02:03 ", " 2000-02-29T01:02:03", "2000-02-29T01:02:03\n", "\n2000-02-29T01:02:03", "2000-02-29T01:02:030", "02000-02-29T01:02:03", "12000-02-29T01:02:03", "2000-02-29T01:02:03Z", "2000-02-29T01:02:03.5", "2000-02-29T01:02:03+00:00", "2000-02-29T01:02:03\x00", "2000-02-29T01:02:03-",
		"2000-02-29t01:02:03", "2000-02-29 01:02:03", "2000-02-29-01:02:03", "2000-02-29\x0001:02:03", "2000/02/29T01:02:03", "2000:02:29T01:02:03", "2000-02-29T01-02-03", "2000-02-29T01.02.03", "20000229T01:02:03", "2000-02-29T010203", "20000229T010203", "--0000000229T010203",
		"+000-02-29T01:02:03", "-000-02-29T01:02:03", " 000-02-29T01:02:03", "2000-+2-29T01:02:03", "2000--2-29T01:02:03", "2000- 2-29T01:02:03", "2000-2 -29T01:02:03", "2000-02-+9T01:02:03", "2000-02--9T01:02:03", "2000-02- 9T01:02:03", "2000-02-9 T01:02:03",
		"2000-02-29T+1:02:03", "2000-02-29T-1:02:03", "2000-02-29T 1:02:03", "2000-02-29T01:+2:03", "2000-02-29T01:-2:03", "2000-02-29T01: 2:03", "2000-02-29T01:02:+3", "2000-02-29T01:02:-3", "2000-02-29T01:02: 3", "2000-02-29T01:02:3 ",
		"200-02-29T01:02:03", "2000-2-29T01:02:03", "2000-02-9T01:02:03", "2000-02-29T1:02:03", "2000-02-29T01:2:03", "2000-02-29T01:02:3",
		// As long as the form, with a number that is too long beside one that is too short.
		"20000-2-29T01:02:03", "200-002-29T01:02:03", "2000-002-9T01:02:03", "2000-2-029T01:02:03", "2000-02-029T1:02:03", "2000-02-9T001:02:03", "2000-02-29T001:2:03", "2000-02-29T1:002:03", "2000-02-29T01:002:3", "2000-02-29T01:2:003",
		// The right form, with numbers that are out of range.
		"2000-00-29T01:02:03", "2000-13-29T01:02:03", "2000-99-29T01:02:03", "2000-02-00T01:02:03", "2000-02-30T01:02:03", "2000-01-32T01:02:03", "2000-04-31T01:02:03", "2000-02-99T01:02:03", "2023-02-29T00:00:00", "2100-02-29T00:00:00",
		"2000-02-29T24:02:03", "2000-02-29T24:00:00", "2000-02-29T99:02:03", "2000-02-29T01:60:03", "2000-02-29T01:99:03", "2000-02-29T01:02:60", "2000-02-29T01:02:61", "2000-02-29T01:02:99", "2000-02-29T23:59:60", "9999-99-99T99:99:99", "0000-00-00T00:00:00",
		// Before 1970, and with a number that is out of range.
		"1969-13-01T00:00:00", "1969-02-29T00:00:00", "1900-02-29T00:00:00", "0000-01-00T00:00:00", "0000-00-01T00:00:00", "1969-12-31T24:00:00", "1969-12-31T23:60:00", "1969-12-31T23:59:60", "1969-12-32T23:59:59",
		// Digits that are no single bytes.
		"２000-02-29T01:02:03", "２-02-29T01:02:03", "2000-02-29T01:02:０3", "2000-02-29T01:02:é", "é00-02-29T01:02:03", "２０００-02-29T01:02:03",
		"YYYY-MM-DDThh:mm:ss", strings.Repeat("2000-02-29T01:02:03", 2), strings.Repeat("0", 1<<20), strings.Repeat("2000-", 1<<18), "2000-02-29T01:02:03" + strings.Repeat("0", 1<<20), strings.Repeat("0", 1<<20) + "2000-02-29T01:02:03",
	} {
		if got, e := date.Parse(s); got != 0 || e != api.ErrForm {
			t.Errorf("Parse(%.40q), %d bytes, = %d, %d, want 0, %d", s, len(s), got, e, api.ErrForm)
		}
	}
}

// P5.2: texts before 1970.
func TestParseBefore(t *testing.T) {
	for _, s := range []string{"1969-12-31T23:59:59", "1969-01-01T00:00:00", "1968-02-29T00:00:00", "1900-02-28T23:59:59", "1000-01-01T00:00:00", "0000-12-31T23:59:59"} {
		if got, e := date.Parse(s); got != 0 || e != api.ErrRange {
			t.Errorf("Parse(%q) = %d, %d, want 0, %d", s, got, e, api.ErrRange)
		}
	}
}

// P5.2: each byte of a text left out, doubled, and replaced by each other one, and each two neighbours changed about.
func TestParseBytes(t *testing.T) {
	for _, s := range []string{"2000-02-29T01:02:03", "1970-01-01T00:00:00", "9999-12-31T23:59:59", "1969-11-11T11:11:11", "2011-11-11T11:11:11", "0000-10-20T10:20:30"} {
		parsed(t, s)
		for i := range len(s) {
			parsed(t, s[:i])
			parsed(t, s[i:])
			parsed(t, s[:i]+s[i+1:])
			parsed(t, s[:i]+s[i:i+1]+s[i:])
			if i > 0 {
				parsed(t, s[:i-1]+s[i:i+1]+s[i-1:i]+s[i+1:])
			}
			for b := range 256 {
				one := string([]byte{byte(b)})
				parsed(t, s[:i]+one+s[i+1:])
				parsed(t, s[:i]+one+s[i:])
			}
		}
		for b := range 256 {
			parsed(t, s+string([]byte{byte(b)}))
		}
	}
}

// P5.2: each two digits in each place, and each year.
func TestParseAll(t *testing.T) {
	for n := range 100 {
		for _, f := range []string{"2000-%02d-29T01:02:03", "2000-02-%02dT01:02:03", "2001-02-%02dT01:02:03", "2000-04-%02dT01:02:03", "2000-12-%02dT01:02:03", "2000-02-29T%02d:02:03", "2000-02-29T01:%02d:03", "2000-02-29T01:02:%02d"} {
			parsed(t, fmt.Sprintf(f, n))
		}
	}
	for y := range 10000 {
		for _, f := range []string{"%04d-01-01T00:00:00", "%04d-02-29T12:34:56", "%04d-12-31T23:59:59", "%04d-06-31T00:00:00"} {
			parsed(t, fmt.Sprintf(f, y))
		}
	}
}

// P5.3: Of and Seconds are inverse to each other, and later times have greater texts.
func TestFollows(t *testing.T) {
	for _, sec := range ends() {
		follows(t, sec)
	}
	for y := 1970; y <= 9999; y++ {
		for _, c := range []date.Civil{civil(y, 1, 1, 0, 0, 0), civil(y, 2, date.Days(y, 2), 23, 59, 59), civil(y, 3, 1, 0, 0, 0), civil(y, 6, 15, 12, 30, 45), civil(y, 12, 31, 23, 59, 59)} {
			n, _ := date.Seconds(c)
			if got, e := date.Of(n); got != c || e != api.OK {
				t.Errorf("Of(Seconds(%v)) = %v, %d", c, got, e)
			}
		}
	}
	before, text := -1, ""
	for _, step := range []struct{ from, to, by int }{{0, 90000, 1}, {90000, 40000000, 599}, {40000000, last - 90000, 999983}, {last - 90000, last, 1}, {last, last + 1, 1}} {
		for sec := step.from; sec < step.to; sec += step.by {
			follows(t, sec)
			s, e := date.Text(sec)
			if s <= text || e != api.OK {
				t.Errorf("Text(%d) = %q, %d, and Text(%d) = %q", before, text, e, sec, s)
			}
			before, text = sec, s
		}
	}
	if before != last {
		t.Errorf("the last second asked for is %d", before)
	}
}

func FuzzDate(f *testing.F) {
	for _, s := range []string{"", "2000-02-29T00:00:00", "1969-12-31T23:59:59", "2023-02-29T00:00:00", "9999-12-31T23:59:59", "0000-00-00T00:00:00", "2000-2-29T00:00:000"} {
		f.Add(s, 951782400, 2000, 2, 29, 23, 59, 59)
	}
	f.Add("T", -1, 1969, 13, 0, -1, 60, math.MaxInt)
	f.Fuzz(func(t *testing.T, s string, sec, year, month, day, hour, min, second int) {
		parsed(t, s)
		counted(t, civil(year, month, day, hour, min, second))
		told(t, sec)
		if sec >= 0 && sec <= last {
			follows(t, sec)
		}
	})
}
