package clock_test

import (
	"cmp"
	"fmt"
	"math"
	"math/big"
	"regexp"
	"slices"
	"strconv"
	"strings"
	"testing"
	"time"

	"shadowbox/clock"
)

const (
	firstSecond = -62135596800 // 0001-01-01T00:00:00
	lastSecond  = 253402300799 // 9999-12-31T23:59:59
	day         = 86400
)

var (
	weekdays = []string{"Sun", "Mon", "Tue", "Wed", "Thu", "Fri", "Sat"}
	months   = []string{"Jan", "Feb", "Mar", "Apr", "May", "Jun", "Jul", "Aug", "Sep", "Oct", "Nov", "Dec"}
)

// form is one of the three forms: how a time is told, how it is read, and the same by the test's own words and by those of the library.
type form struct {
	name    string
	tell    func(clock.Time) string
	read    func(string) (clock.Time, bool)
	plain   func(clock.Time) string
	layout  string
	pattern *regexp.Regexp // its parts have the names of a Time's fields
}

var forms = []form{
	{"Web", clock.Web, clock.ReadWeb, plainWeb, "Mon, 02 Jan 2006 15:04:05 GMT",
		regexp.MustCompile(`\A(?P<Weekday>[A-Z][a-z][a-z]), (?P<Day>\d\d) (?P<Month>[A-Z][a-z][a-z]) (?P<Year>\d{4}) (?P<Hour>\d\d):(?P<Minute>\d\d):(?P<Second>\d\d) GMT\z`)},
	{"Iso", clock.Iso, clock.ReadIso, plainIso, "2006-01-02T15:04:05.000Z",
		regexp.MustCompile(`\A(?P<Year>\d{4})-(?P<Month>\d\d)-(?P<Day>\d\d)T(?P<Hour>\d\d):(?P<Minute>\d\d):(?P<Second>\d\d)\.000Z\z`)},
	{"Short", clock.Short, clock.ReadShort, plainShort, "20060102T150405Z",
		regexp.MustCompile(`\A(?P<Year>\d{4})(?P<Month>\d\d)(?P<Day>\d\d)T(?P<Hour>\d\d)(?P<Minute>\d\d)(?P<Second>\d\d)Z\z`)},
}

// divides asks of whole numbers without bounds.
func divides(year, by int) bool {
	return new(big.Int).Mod(big.NewInt(int64(year)), big.NewInt(int64(by))).Sign() == 0
}

func plainLeap(year int) bool {
	if divides(year, 400) {
		return true
	}
	return divides(year, 4) && !divides(year, 100)
}

func plainDays(year, month int) int {
	switch month {
	case 1, 3, 5, 7, 8, 10, 12:
		return 31
	case 4, 6, 9, 11:
		return 30
	case 2:
		if plainLeap(year) {
			return 29
		}
		return 28
	}
	return 0
}

func plainRight(x clock.Time) bool {
	return x.Year >= 1 && x.Year <= 9999 && x.Month >= 1 && x.Month <= 12 && x.Day >= 1 && x.Day <= plainDays(x.Year, x.Month) &&
		x.Hour >= 0 && x.Hour <= 23 && x.Minute >= 0 && x.Minute <= 59 && x.Second >= 0 && x.Second <= 59
}

// library is a right time as the library has it.
func library(x clock.Time) time.Time {
	return time.Date(x.Year, time.Month(x.Month), x.Day, x.Hour, x.Minute, x.Second, 0, time.UTC)
}

func fromLibrary(seconds int) clock.Time {
	u := time.Unix(int64(seconds), 0).UTC()
	return clock.Time{Year: u.Year(), Month: int(u.Month()), Day: u.Day(), Hour: u.Hour(), Minute: u.Minute(), Second: u.Second()}
}

func plainWeb(x clock.Time) string {
	return fmt.Sprintf("%s, %02d %s %04d %02d:%02d:%02d GMT", weekdays[library(x).Weekday()], x.Day, months[x.Month-1], x.Year, x.Hour, x.Minute, x.Second)
}

func plainIso(x clock.Time) string {
	return fmt.Sprintf("%04d-%02d-%02dT%02d:%02d:%02d.000Z", x.Year, x.Month, x.Day, x.Hour, x.Minute, x.Second)
}

func plainShort(x clock.Time) string {
	return fmt.Sprintf("%04d%02d%02dT%02d%02d%02dZ", x.Year, x.Month, x.Day, x.Hour, x.Minute, x.Second)
}

// plainRead is the time that a text of that form tells, by the form's pattern.
func (f form) plainRead(s string) (clock.Time, bool) {
	parts := f.pattern.FindStringSubmatch(s)
	if parts == nil {
		return clock.Time{}, false
	}
	field := func(name string) int {
		part := parts[f.pattern.SubexpIndex(name)]
		if at := slices.Index(months, part); at >= 0 {
			return at + 1
		}
		n, err := strconv.Atoi(part)
		if err != nil {
			return -1
		}
		return n
	}
	x := clock.Time{Year: field("Year"), Month: field("Month"), Day: field("Day"), Hour: field("Hour"), Minute: field("Minute"), Second: field("Second")}
	if !plainRight(x) {
		return clock.Time{}, false
	}
	if at := f.pattern.SubexpIndex("Weekday"); at > 0 && parts[at] != weekdays[library(x).Weekday()] {
		return clock.Time{}, false
	}
	return x, true
}

// of asks for the time of seconds, and for these seconds again.
func of(t *testing.T, seconds int, want clock.Time) {
	t.Helper()
	if got, ok := clock.Of(seconds); got != want || !ok {
		t.Errorf("Of(%d) = %v, %t, want %v", seconds, got, ok, want)
	}
	if got, ok := clock.Seconds(want); got != seconds || !ok {
		t.Errorf("Seconds(%v) = %d, %t, want %d", want, got, ok, seconds)
	}
}

func notOf(t *testing.T, seconds int) {
	t.Helper()
	if got, ok := clock.Of(seconds); got != (clock.Time{}) || ok {
		t.Errorf("Of(%d) = %v, %t, want none", seconds, got, ok)
	}
}

func weekday(t *testing.T, x clock.Time, want int) {
	t.Helper()
	if got := clock.Weekday(x); got != want {
		t.Errorf("Weekday(%v) = %d, want %d", x, got, want)
	}
}

// right asks all that can be asked of a right time.
func right(t *testing.T, x clock.Time) {
	t.Helper()
	u := library(x)
	of(t, int(u.Unix()), x)
	weekday(t, x, int(u.Weekday()))
	for _, f := range forms {
		want := f.plain(x)
		if other := u.Format(f.layout); other != want {
			t.Errorf("of %v the library thinks otherwise: %s, not %s", x, other, want)
		}
		if got := f.tell(x); got != want {
			t.Errorf("%s(%v) = %q, want %q", f.name, x, got, want)
		}
		if got, ok := f.read(want); got != x || !ok {
			t.Errorf("Read%s(%q) = %v, %t, want %v", f.name, want, got, ok, x)
		}
	}
}

// wrong asks all that can be asked of a time that is not right.
func wrong(t *testing.T, x clock.Time) {
	t.Helper()
	if got, ok := clock.Seconds(x); got != 0 || ok {
		t.Errorf("Seconds(%v) = %d, %t, want 0 and false", x, got, ok)
	}
	weekday(t, x, -1)
	for _, f := range forms {
		if got := f.tell(x); got != "" {
			t.Errorf("%s(%v) = %q, want nothing", f.name, x, got)
		}
	}
}

func either(t *testing.T, x clock.Time) {
	t.Helper()
	if plainRight(x) {
		right(t, x)
	} else {
		wrong(t, x)
	}
}

// reads asks for the time that a text is read as in each form.
func reads(t *testing.T, s string) {
	t.Helper()
	for _, f := range forms {
		want, there := f.plainRead(s)
		if got, ok := f.read(s); got != want || ok != there {
			t.Errorf("Read%s(%q) = %v, %t, want %v, %t", f.name, s, got, ok, want, there)
		}
	}
}

// noText asks that a text is read in no form.
func noText(t *testing.T, s string) {
	t.Helper()
	for _, f := range forms {
		if got, ok := f.read(s); got != (clock.Time{}) || ok {
			t.Errorf("Read%s(%q) = %v, %t, want none", f.name, s, got, ok)
		}
	}
}

// compare tells which of two times is the earlier one, by their fields.
func compare(a, b clock.Time) int {
	return cmp.Or(cmp.Compare(a.Year, b.Year), cmp.Compare(a.Month, b.Month), cmp.Compare(a.Day, b.Day),
		cmp.Compare(a.Hour, b.Hour), cmp.Compare(a.Minute, b.Minute), cmp.Compare(a.Second, b.Second))
}

// eachDay goes over all days of the calendar, one behind the other, from a Monday on.
func eachDay(visit func(n int, x clock.Time, weekday int)) {
	n := 0
	for year := 1; year <= 9999; year++ {
		for month := 1; month <= 12; month++ {
			for d := 1; d <= plainDays(year, month); d++ {
				visit(n, clock.Time{Year: year, Month: month, Day: d}, (n+1)%7)
				n++
			}
		}
	}
}

// ints are numbers at which something ends, and those beside them.
func ints() []int {
	l := []int{math.MinInt, math.MinInt + 1, math.MaxInt - 1, math.MaxInt}
	for _, n := range []int{0, 4, 7, 10, 12, 23, 28, 29, 30, 31, 59, 99, 100, 365, 400, 1900, 1970, 2000, 9999, 10400, 1 << 8, 1 << 16, 1 << 31, 1 << 32, 1<<32 + 2000, 1 << 62} {
		l = append(l, n-1, n, n+1, -n-1, -n, -n+1)
	}
	slices.Sort(l)
	return slices.Compact(l)
}

// samples are times at the ends of all kinds, and some between them.
var samples = []clock.Time{
	{1, 1, 1, 0, 0, 0}, {1, 12, 31, 23, 59, 59}, {4, 2, 29, 1, 2, 3}, {9, 9, 9, 9, 9, 9}, {100, 2, 28, 10, 20, 30}, {400, 2, 29, 4, 5, 6}, {999, 11, 11, 11, 11, 11},
	{1582, 10, 10, 12, 0, 0}, {1900, 2, 28, 23, 59, 59}, {1969, 12, 31, 23, 59, 59}, {1970, 1, 1, 0, 0, 0}, {1994, 11, 6, 8, 49, 37}, {1996, 2, 29, 19, 29, 39},
	{2000, 2, 29, 0, 0, 0}, {2000, 12, 31, 23, 59, 59}, {2026, 11, 20, 9, 2, 0}, {2100, 3, 1, 0, 0, 0}, {9999, 1, 1, 0, 0, 0}, {9999, 12, 31, 23, 59, 59},
}

func TestExamples(t *testing.T) { // P15.2 to P15.5: the chapter's, with all that belongs to it
	x, ok := clock.Of(784111777)
	if want := (clock.Time{1994, 11, 6, 8, 49, 37}); x != want || !ok {
		t.Fatalf("Of(784111777) = %v, %t", x, ok)
	}
	for _, c := range []struct{ got, want string }{
		{clock.Web(x), "Sun, 06 Nov 1994 08:49:37 GMT"}, {clock.Iso(x), "1994-11-06T08:49:37.000Z"}, {clock.Short(x), "19941106T084937Z"},
	} {
		if c.got != c.want {
			t.Errorf("%v is told as %q, want %q", x, c.got, c.want)
		}
	}
	weekday(t, x, 0)
	right(t, x)
}

func TestLeap(t *testing.T) { // P15.1
	for year, want := range map[int]int{
		1: 0, 4: 1, 100: 0, 400: 1, 1900: 0, 1996: 1, 2000: 1, 2100: 0, 9999: 0, 0: 1, -1: 0, -4: 1, -100: 0, -400: 1, 10000: 1,
		3: 0, 5: 0, 200: 0, 300: 0, 800: 1, 1995: 0, 1997: 0, 1998: 0, 2400: 1, -2: 0, -3: 0, -96: 1, -200: 0, -800: 1, 10004: 1, 10100: 0,
		math.MinInt: 1, math.MinInt + 1: 0, math.MaxInt: 0, math.MaxInt - 3: 1, // the least int is a power of 2, and -8 modulo 100
	} {
		if got := clock.Leap(year); got != (want == 1) {
			t.Errorf("Leap(%d) = %t", year, got)
		}
		if got := clock.Days(year, 2); got != 28+want {
			t.Errorf("Days(%d, 2) = %d", year, got)
		}
	}
	look := func(year int) {
		if got := clock.Leap(year); got != plainLeap(year) {
			t.Errorf("Leap(%d) = %t", year, got)
		}
	}
	for year := -10500; year <= 10500; year++ {
		look(year)
	}
	for n := range 1000 {
		look(math.MinInt + n)
		look(math.MaxInt - n)
	}
	for _, year := range ints() {
		look(year)
	}
}

func TestDays(t *testing.T) { // P15.1
	for year, want := range map[int][12]int{
		2001: {31, 28, 31, 30, 31, 30, 31, 31, 30, 31, 30, 31},
		2004: {31, 29, 31, 30, 31, 30, 31, 31, 30, 31, 30, 31},
		1900: {31, 28, 31, 30, 31, 30, 31, 31, 30, 31, 30, 31},
		2000: {31, 29, 31, 30, 31, 30, 31, 31, 30, 31, 30, 31},
	} {
		for i, days := range want {
			if got := clock.Days(year, i+1); got != days {
				t.Errorf("Days(%d, %d) = %d, want %d", year, i+1, got, days)
			}
		}
	}
	years := append(ints(), 1, 4, 100, 400, 1900, 1996, 2000, 2100, 9999, 0, -1, -4, -100, -400, 10000)
	for _, year := range years {
		for _, month := range append(ints(), 1, 2, 3, 4, 5, 6, 7, 8, 9, 10, 11, 12, 13) {
			if got, want := clock.Days(year, month), plainDays(year, month); got != want {
				t.Errorf("Days(%d, %d) = %d, want %d", year, month, got, want)
			}
		}
	}
}

func TestOf(t *testing.T) { // P15.2
	for seconds, want := range map[int]clock.Time{
		0: {1970, 1, 1, 0, 0, 0}, 1: {1970, 1, 1, 0, 0, 1}, -1: {1969, 12, 31, 23, 59, 59}, 59: {1970, 1, 1, 0, 0, 59}, 60: {1970, 1, 1, 0, 1, 0}, 3599: {1970, 1, 1, 0, 59, 59}, 3600: {1970, 1, 1, 1, 0, 0},
		86399: {1970, 1, 1, 23, 59, 59}, 86400: {1970, 1, 2, 0, 0, 0}, -86400: {1969, 12, 31, 0, 0, 0}, -86401: {1969, 12, 30, 23, 59, 59}, -86399: {1969, 12, 31, 0, 0, 1},
		firstSecond: {1, 1, 1, 0, 0, 0}, -62104060801: {1, 12, 31, 23, 59, 59}, -31536000: {1969, 1, 1, 0, 0, 0}, 31535999: {1970, 12, 31, 23, 59, 59},
		946684799: {1999, 12, 31, 23, 59, 59}, 946684800: {2000, 1, 1, 0, 0, 0}, 951782400: {2000, 2, 29, 0, 0, 0}, 951868800: {2000, 3, 1, 0, 0, 0}, 978307199: {2000, 12, 31, 23, 59, 59}, 978307200: {2001, 1, 1, 0, 0, 0},
		-2203891201: {1900, 2, 28, 23, 59, 59}, -2203891200: {1900, 3, 1, 0, 0, 0}, 4107542400: {2100, 3, 1, 0, 0, 0}, 2147483647: {2038, 1, 19, 3, 14, 7}, -2147483648: {1901, 12, 13, 20, 45, 52}, 4294967296: {2106, 2, 7, 6, 28, 16},
		253370764800: {9999, 1, 1, 0, 0, 0}, lastSecond: {9999, 12, 31, 23, 59, 59},
	} {
		of(t, seconds, want)
		right(t, want)
	}
}

func TestOfNone(t *testing.T) { // P15.2: behind the ends, and where sums would leave the range of an int
	for _, seconds := range []int{
		firstSecond - 1, lastSecond + 1, firstSecond - day, lastSecond + day, firstSecond - 366*day, lastSecond + 366*day, 2 * firstSecond, 2 * lastSecond,
		math.MinInt, math.MinInt + 1, math.MaxInt, math.MaxInt - 1,
		math.MinInt - firstSecond, math.MinInt - firstSecond - 1, math.MinInt - firstSecond + 1, math.MaxInt + firstSecond, math.MaxInt + firstSecond - 1, math.MaxInt + firstSecond + 1,
		math.MinInt + lastSecond, math.MaxInt - lastSecond, math.MinInt / day, math.MaxInt / day, 1 << 40, -1 << 40,
	} {
		notOf(t, seconds)
	}
	for n := range 63 {
		for _, seconds := range []int{1<<n - 1, 1 << n, 1<<n + 1, -1<<n - 1, -1 << n, -1<<n + 1} {
			if seconds < firstSecond || seconds > lastSecond {
				notOf(t, seconds)
			} else {
				right(t, fromLibrary(seconds))
			}
		}
	}
	for n := range 100000 {
		notOf(t, firstSecond-1-n)
		notOf(t, lastSecond+1+n)
	}
}

func TestEachDay(t *testing.T) { // P15.2, P15.3: all days of the calendar, their first and their last second
	t.Parallel()
	days := 0
	eachDay(func(n int, x clock.Time, want int) {
		days++
		seconds := firstSecond + n*day
		of(t, seconds, x)
		weekday(t, x, want)
		x.Hour, x.Minute, x.Second = 23, 59, 59
		of(t, seconds+day-1, x)
	})
	if days != (lastSecond+1-firstSecond)/day {
		t.Errorf("the test went over %d days", days)
	}
}

func TestDaysTold(t *testing.T) { // P15.3 to P15.6: all that can be asked of each day of some years, and of some days of each year
	t.Parallel()
	years := []int{1, 4, 100, 400, 1600, 1899, 1900, 1901, 1969, 1970, 1972, 1999, 2000, 2001, 2004, 2100, 9996, 9999}
	eachDay(func(n int, x clock.Time, _ int) {
		if slices.Contains(years, x.Year) || n%53 == 0 {
			x.Hour, x.Minute, x.Second = n%24, n%60, n/7%60
			right(t, x)
		}
	})
}

func TestEachSecond(t *testing.T) { // P15.2, P15.6: all seconds of some days
	for _, begin := range []int{firstSecond, -86400, 0, 951782400, lastSecond - day + 1} {
		x := fromLibrary(begin)
		for second := range day {
			x.Hour, x.Minute, x.Second = second/3600, second/60%60, second%60
			of(t, begin+second, x)
		}
	}
	for second := range day {
		if second%61 == 0 {
			right(t, clock.Time{2000, 2, 29, second / 3600, second / 60 % 60, second % 60})
		}
	}
}

// fields are those of a time, in their order.
func fields(x *clock.Time) []*int {
	return []*int{&x.Year, &x.Month, &x.Day, &x.Hour, &x.Minute, &x.Second}
}

func TestFields(t *testing.T) { // P15.2 to P15.4: each field at its least and its greatest number, and beyond them
	for i, ends := range [][2]int{{1, 9999}, {1, 12}, {1, 31}, {0, 23}, {0, 59}, {0, 59}} {
		for _, x := range []clock.Time{{2001, 1, 15, 12, 30, 30}, {2000, 12, 15, 0, 0, 0}, {1, 1, 1, 23, 59, 59}} {
			f := fields(&x)[i]
			for _, n := range ends {
				*f = n
				right(t, x)
			}
			for _, n := range []int{ends[0] - 1, ends[1] + 1, -ends[1], -1, -2, ends[1] + 100, math.MinInt, math.MinInt + 1, math.MaxInt, math.MaxInt - 1} {
				*f = n
				wrong(t, x)
			}
		}
	}
	wrong(t, clock.Time{})
	wrong(t, clock.Time{-1, -1, -1, -1, -1, -1})
	wrong(t, clock.Time{math.MinInt, math.MinInt, math.MinInt, math.MinInt, math.MinInt, math.MinInt})
	wrong(t, clock.Time{math.MaxInt, math.MaxInt, math.MaxInt, math.MaxInt, math.MaxInt, math.MaxInt})
}

func TestFieldsInTwos(t *testing.T) { // P15.2 to P15.4: each field, and each two, at each of many numbers
	t.Parallel()
	for _, base := range []clock.Time{{2001, 6, 15, 12, 30, 30}, {2000, 2, 29, 23, 59, 59}} {
		for i := range 6 {
			for j := range i + 1 {
				for _, a := range ints() {
					for _, b := range ints() {
						x := base
						*fields(&x)[i], *fields(&x)[j] = a, b
						either(t, x)
					}
				}
			}
		}
	}
}

func TestMonthEnds(t *testing.T) { // P15.1 to P15.4: days 0, 1 and 28 to 32 of each month
	for _, year := range []int{0, 1, 4, 100, 400, 1900, 1996, 1999, 2000, 2001, 2100, 9996, 9999, 10000, -4, -400} {
		for month := range 15 {
			for _, d := range []int{-1, 0, 1, 2, 27, 28, 29, 30, 31, 32, 33} {
				either(t, clock.Time{year, month, d, 0, 0, 0})
				either(t, clock.Time{year, month, d, 23, 59, 59})
			}
		}
	}
	for year := 1; year <= 9999; year++ {
		for _, d := range []int{28, 29, 30} {
			either(t, clock.Time{year, 2, d, 12, 0, 0})
		}
	}
	right(t, clock.Time{2000, 2, 29, 0, 0, 0})
	wrong(t, clock.Time{1900, 2, 29, 0, 0, 0})
	wrong(t, clock.Time{2001, 2, 29, 0, 0, 0})
	wrong(t, clock.Time{2000, 2, 30, 0, 0, 0})
	wrong(t, clock.Time{2000, 4, 31, 0, 0, 0})
}

func TestWeekday(t *testing.T) { // P15.3
	for x, want := range map[clock.Time]int{
		{1969, 12, 28, 0, 0, 0}: 0, {1969, 12, 29, 0, 0, 0}: 1, {1969, 12, 30, 0, 0, 0}: 2, {1969, 12, 31, 23, 59, 59}: 3,
		{1970, 1, 1, 0, 0, 0}: 4, {1970, 1, 1, 23, 59, 59}: 4, {1970, 1, 2, 0, 0, 0}: 5, {1970, 1, 3, 0, 0, 0}: 6, {1970, 1, 4, 0, 0, 0}: 0, {1970, 1, 5, 0, 0, 0}: 1,
		{1, 1, 1, 0, 0, 0}: 1, {1, 1, 7, 0, 0, 0}: 0, {9999, 12, 31, 23, 59, 59}: 5, {9999, 12, 31, 0, 0, 0}: 5,
		{1904, 2, 29, 0, 0, 0}: 1, {1908, 2, 29, 0, 0, 0}: 6, {1996, 2, 29, 0, 0, 0}: 4, {2000, 2, 28, 0, 0, 0}: 1, {2000, 2, 29, 0, 0, 0}: 2, {2000, 3, 1, 0, 0, 0}: 3, {2004, 2, 29, 0, 0, 0}: 0,
		{1900, 2, 28, 0, 0, 0}: 3, {1900, 3, 1, 0, 0, 0}: 4, {1582, 10, 15, 0, 0, 0}: 5, {1994, 11, 6, 8, 49, 37}: 0, {2026, 11, 20, 0, 0, 0}: 5,
		{1900, 2, 29, 0, 0, 0}: -1, {1970, 1, 0, 0, 0, 0}: -1, {1970, 1, 32, 0, 0, 0}: -1, {1970, 0, 1, 0, 0, 0}: -1, {1970, 13, 1, 0, 0, 0}: -1, {0, 12, 31, 0, 0, 0}: -1, {10000, 1, 1, 0, 0, 0}: -1,
		{1970, 1, 1, 24, 0, 0}: -1, {1970, 1, 1, 0, 60, 0}: -1, {1970, 1, 1, 0, 0, 60}: -1, {1970, 1, 1, -1, 0, 0}: -1, {1970, 1, 1, 0, -1, 0}: -1, {1970, 1, 1, 0, 0, -1}: -1, {}: -1,
	} {
		weekday(t, x, want)
	}
}

func TestTold(t *testing.T) { // P15.4, P15.5: the first and the last time, each month, each day of the week, numbers of one digit
	for _, c := range []struct {
		x               clock.Time
		web, iso, short string
	}{
		{clock.Time{1, 1, 1, 0, 0, 0}, "Mon, 01 Jan 0001 00:00:00 GMT", "0001-01-01T00:00:00.000Z", "00010101T000000Z"},
		{clock.Time{9999, 12, 31, 23, 59, 59}, "Fri, 31 Dec 9999 23:59:59 GMT", "9999-12-31T23:59:59.000Z", "99991231T235959Z"},
		{clock.Time{2001, 1, 2, 3, 4, 5}, "Tue, 02 Jan 2001 03:04:05 GMT", "2001-01-02T03:04:05.000Z", "20010102T030405Z"},
		{clock.Time{2001, 2, 7, 0, 0, 9}, "Wed, 07 Feb 2001 00:00:09 GMT", "2001-02-07T00:00:09.000Z", "20010207T000009Z"},
		{clock.Time{2001, 3, 1, 10, 11, 12}, "Thu, 01 Mar 2001 10:11:12 GMT", "2001-03-01T10:11:12.000Z", "20010301T101112Z"},
		{clock.Time{2001, 4, 6, 12, 0, 0}, "Fri, 06 Apr 2001 12:00:00 GMT", "2001-04-06T12:00:00.000Z", "20010406T120000Z"},
		{clock.Time{2001, 5, 5, 5, 5, 5}, "Sat, 05 May 2001 05:05:05 GMT", "2001-05-05T05:05:05.000Z", "20010505T050505Z"},
		{clock.Time{2001, 6, 10, 20, 30, 40}, "Sun, 10 Jun 2001 20:30:40 GMT", "2001-06-10T20:30:40.000Z", "20010610T203040Z"},
		{clock.Time{2001, 7, 30, 23, 0, 59}, "Mon, 30 Jul 2001 23:00:59 GMT", "2001-07-30T23:00:59.000Z", "20010730T230059Z"},
		{clock.Time{987, 8, 31, 1, 59, 0}, "Fri, 31 Aug 0987 01:59:00 GMT", "0987-08-31T01:59:00.000Z", "09870831T015900Z"},
		{clock.Time{2001, 9, 9, 1, 46, 40}, "Sun, 09 Sep 2001 01:46:40 GMT", "2001-09-09T01:46:40.000Z", "20010909T014640Z"},
		{clock.Time{12, 10, 12, 12, 12, 12}, "Fri, 12 Oct 0012 12:12:12 GMT", "0012-10-12T12:12:12.000Z", "00121012T121212Z"},
		{clock.Time{2001, 11, 30, 9, 9, 9}, "Fri, 30 Nov 2001 09:09:09 GMT", "2001-11-30T09:09:09.000Z", "20011130T090909Z"},
		{clock.Time{2000, 2, 29, 23, 59, 59}, "Tue, 29 Feb 2000 23:59:59 GMT", "2000-02-29T23:59:59.000Z", "20000229T235959Z"},
	} {
		right(t, c.x)
		for i, s := range []string{c.web, c.iso, c.short} {
			f := forms[i]
			if got := f.tell(c.x); got != s {
				t.Errorf("%s(%v) = %q, want %q", f.name, c.x, got, s)
			}
			if got, ok := f.read(s); got != c.x || !ok {
				t.Errorf("Read%s(%q) = %v, %t, want %v", f.name, s, got, ok, c.x)
			}
			for j, other := range forms { // a text of one form is none of another
				if got, ok := other.read(s); i != j && (got != (clock.Time{}) || ok) {
					t.Errorf("Read%s(%q) = %v, %t", other.name, s, got, ok)
				}
			}
		}
	}
}

func TestNoTexts(t *testing.T) { // P15.5
	for _, s := range []string{
		"", " ", "Z", "T", "GMT", "0", "now", "1994", "784111777", strings.Repeat("0", 16), strings.Repeat("0", 24), strings.Repeat("0", 29), strings.Repeat(" ", 29), strings.Repeat("\xff", 29), strings.Repeat("\x00", 16),
		"Sun, 06 Nov 1994 08:49:37 gmt", "Sun, 06 Nov 1994 08:49:37 UTC", "Sun, 06 Nov 1994 08:49:37 +00", "sun, 06 Nov 1994 08:49:37 GMT", "SUN, 06 Nov 1994 08:49:37 GMT", "Sun, 06 nov 1994 08:49:37 GMT", "Sun, 06 NOV 1994 08:49:37 GMT",
		"Sun,  6 Nov 1994 08:49:37 GMT", "Sun, 6 Nov 1994 08:49:37 GMT", "Sun, +6 Nov 1994 08:49:37 GMT", "Sun, -6 Nov 1994 08:49:37 GMT", "Sun, 06 Nov +994 08:49:37 GMT", "Sun, 06 Nov 1994 8:49:37 GMT", "Sun, 06 Nov 1994  8:49:37 GMT", "Sun, 06 Nov 1994 08:49 GMT",
		"Sun 06 Nov 1994 08:49:37 GMT", "Sun,06 Nov 1994 08:49:37 GMT", "Sun, 06-Nov-1994 08:49:37 GMT", "Sunday, 06-Nov-94 08:49:37 GMT", "Sun Nov  6 08:49:37 1994", "06 Nov 1994 08:49:37 GMT", " Sun, 06 Nov 1994 08:49:37 GMT", "Sun, 06 Nov 1994 08:49:37 GMT ", "Sun, 06 Nov 1994 08:49:37 GMT\n",
		"Mon, 06 Nov 1994 08:49:37 GMT", "Tue, 06 Nov 1994 08:49:37 GMT", "Sat, 06 Nov 1994 08:49:37 GMT", "Son, 06 Nov 1994 08:49:37 GMT", "   , 06 Nov 1994 08:49:37 GMT", "Sun, 06 Nob 1994 08:49:37 GMT", "Sun, 06     1994 08:49:37 GMT", "Sun, 06 011 1994 08:49:37 GMT", "Sun, 07 Nov 1994 08:49:37 GMT", "Sun, 06 Dec 1994 08:49:37 GMT", "Sun, 06 Nov 1995 08:49:37 GMT",
		"Sun, 06 Nov 1994 24:00:00 GMT", "Mon, 07 Nov 1994 24:00:00 GMT", "Sun, 06 Nov 1994 08:60:37 GMT", "Sun, 06 Nov 1994 08:49:60 GMT", "Sat, 31 Dec 2016 23:59:60 GMT", "Sun, 00 Nov 1994 08:49:37 GMT", "Thu, 31 Nov 1994 08:49:37 GMT", "Tue, 29 Feb 1994 08:49:37 GMT", "Wed, 29 Feb 1900 08:49:37 GMT", "Thu, 29 Feb 1900 08:49:37 GMT", "Sat, 01 Jan 0000 00:00:00 GMT", "Fri, 31 Dec 0000 00:00:00 GMT", "Sun, 31 Dec 0000 00:00:00 GMT", "Sat, 01 Jan 10000 00:00:00 GMT",
		"1994-11-06T08:49:37.001Z", "1994-11-06T08:49:37.999Z", "1994-11-06T08:49:37.00Z", "1994-11-06T08:49:37.0000Z", "1994-11-06T08:49:37Z", "1994-11-06T08:49:37.000", "1994-11-06T08:49:37.000z", "1994-11-06t08:49:37.000Z", "1994-11-06 08:49:37.000Z", "1994-11-06T08:49:37,000Z", "1994-11-06", "1994/11/06T08:49:37.000Z", "1994-11-06T08:49:37+00:0", "-994-11-06T08:49:37.000Z", "+994-11-06T08:49:37.000Z", "1994--1-06T08:49:37.000Z", "1994-+1-06T08:49:37.000Z",
		"1994-00-06T08:49:37.000Z", "1994-13-06T08:49:37.000Z", "1994-11-00T08:49:37.000Z", "1994-11-31T08:49:37.000Z", "1994-02-29T08:49:37.000Z", "1900-02-29T08:49:37.000Z", "2000-02-30T08:49:37.000Z", "1994-11-06T24:00:00.000Z", "1994-11-06T08:60:37.000Z", "1994-11-06T08:49:60.000Z", "0000-01-01T00:00:00.000Z", "0000-02-29T00:00:00.000Z", "10000-01-01T00:00:00.000Z", "10000-1-01T00:00:00.000Z", " 1994-11-06T08:49:37.000Z", "1994-11-06T08:49:37.000Z ",
		"19941106T084937", "19941106T084937z", "19941106t084937Z", "19941106 084937Z", "19941106084937ZZ", "1994110T0849377Z", "19940006T084937Z", "19941306T084937Z", "19941100T084937Z", "19941131T084937Z", "19940229T084937Z", "19000229T084937Z", "20000230T084937Z", "19941106T240000Z", "19941106T086037Z", "19941106T084960Z", "00000101T000000Z", "00000229T000000Z", "100000101T000000Z", "-9941106T084937Z", "+9941106T084937Z", " 9941106T084937Z", "1994116T0849370Z", " 19941106T084937Z", "19941106T084937Z ", "0x941106T084937Z", "1e931106T084937Z",
		"١٩٩٤-11-06T08:49:37Z", "19941106T0８937Z", "Sun, 06 Nov 1994 08:49:37 GM\u0054\u0301",
	} {
		noText(t, s)
		reads(t, s)
	}
}

func TestBytes(t *testing.T) { // P15.5: with another byte in each place, with a byte less, and with a byte more
	t.Parallel()
	for _, x := range samples {
		for _, f := range forms {
			s := f.plain(x)
			if got, ok := f.read(s); got != x || !ok {
				t.Errorf("Read%s(%q) = %v, %t", f.name, s, got, ok)
			}
			for at := range len(s) {
				for c := range 256 {
					reads(t, s[:at]+string([]byte{byte(c)})+s[at+1:])
				}
				noText(t, s[:at]+s[at+1:])
			}
			for at := range len(s) + 1 {
				for c := range 256 {
					noText(t, s[:at]+string([]byte{byte(c)})+s[at:])
				}
				if at < len(s) {
					noText(t, s[:at])
				}
				if at > 0 {
					noText(t, s[at:])
					noText(t, s+s[:at])
				}
			}
		}
	}
}

func TestNumbers(t *testing.T) { // P15.5: each number of two digits in each field of two, and each year, with each day of the week
	t.Parallel()
	text := func(weekday, month string, year, m, d, h, min, sec int) {
		reads(t, fmt.Sprintf("%s, %02d %s %04d %02d:%02d:%02d GMT", weekday, d, month, year, h, min, sec))
		if weekday == "Sun" {
			reads(t, fmt.Sprintf("%04d-%02d-%02dT%02d:%02d:%02d.000Z", year, m, d, h, min, sec))
			reads(t, fmt.Sprintf("%04d%02d%02dT%02d%02d%02dZ", year, m, d, h, min, sec))
		}
	}
	for n := range 100 {
		for _, name := range weekdays {
			for i, month := range months {
				text(name, month, 2000, i+1, n, 0, 0, 0)
				text(name, month, 2001, i+1, n, 23, 59, 59)
			}
			text(name, "Feb", 2000, n, 29, 12, 0, 0)
			text(name, "Feb", 2000, 2, 29, n, 0, 0)
			text(name, "Feb", 2000, 2, 29, 0, n, 0)
			text(name, "Feb", 2000, 2, 29, 0, 0, n)
		}
	}
	for year := range 10000 {
		for _, name := range weekdays {
			text(name, "Feb", year, 2, 29, 1, 2, 3)
		}
		text("Sun", "Jan", year, 1, 1, 0, 0, 0)
	}
	for _, x := range samples {
		for _, name := range append([]string{"sun", "SUN", "Son", "Mai", "Jan", "   ", "\xff\xff\xff"}, weekdays...) {
			for i, month := range append(slices.Clone(months), "jan", "JAN", "Mai", "Okt", "Sun", "   ", "000", "001", "011", "\x00\x00\x00") {
				text(name, month, x.Year, i+1, x.Day, x.Hour, x.Minute, x.Second)
			}
		}
	}
}

func TestFractions(t *testing.T) { // P15.5: of the thousandths .000 alone
	for n := range 1000 {
		s := fmt.Sprintf("1994-11-06T08:49:37.%03dZ", n)
		if n > 0 {
			noText(t, s)
		}
		reads(t, s)
	}
}

func TestThereAndBack(t *testing.T) { // P15.6
	for _, year := range []int{1, 4, 99, 100, 400, 1900, 1969, 1970, 1996, 2000, 2100, 9999} {
		for month := 1; month <= 12; month++ {
			for _, d := range []int{1, 9, 10, 28, 29, 30, 31} {
				for _, h := range []int{0, 9, 10, 23} {
					for _, n := range []int{0, 9, 10, 59} {
						x := clock.Time{year, month, d, h, n, 59 - n}
						either(t, x)
						back(t, x)
					}
				}
			}
		}
	}
	for n := range 100000 {
		seconds := firstSecond + n*((lastSecond-firstSecond)/100000) + n
		x, ok := clock.Of(seconds)
		if !ok || x != fromLibrary(seconds) {
			t.Fatalf("Of(%d) = %v, %t", seconds, x, ok)
		}
		back(t, x)
	}
}

// back asks that what is told of a right time is that time again, by the program's answers alone.
func back(t *testing.T, x clock.Time) {
	t.Helper()
	seconds, ok := clock.Seconds(x)
	if !ok {
		return
	}
	if again, ok := clock.Of(seconds); again != x || !ok {
		t.Errorf("%v is %d seconds, and these are %v", x, seconds, again)
	}
	for _, f := range forms {
		if again, ok := f.read(f.tell(x)); again != x || !ok {
			t.Errorf("%v is told as %q, and this is %v", x, f.tell(x), again)
		}
	}
}

// later asks that a second later is a later time, which is told as a later one too.
func later(t *testing.T, seconds int) {
	t.Helper()
	x, there := clock.Of(seconds)
	next, ok := clock.Of(seconds + 1)
	if !there || !ok || compare(x, next) >= 0 {
		t.Errorf("%d is %v, and a second later is %v", seconds, x, next)
	}
	a, isA := clock.Seconds(x)
	b, isB := clock.Seconds(next)
	if !isA || !isB || b != a+1 {
		t.Errorf("%v is %d seconds, and %v is %d", x, a, next, b)
	}
	if clock.Iso(x) >= clock.Iso(next) || clock.Short(x) >= clock.Short(next) {
		t.Errorf("%q is not ahead of %q, or %q not ahead of %q", clock.Iso(x), clock.Iso(next), clock.Short(x), clock.Short(next))
	}
}

func TestLater(t *testing.T) { // P15.6: over the ends of minutes, hours, days, months and years
	t.Parallel()
	for _, begin := range []int{firstSecond, -2*day - 1, 951782400 - 2*day, lastSecond - 4*day} {
		for n := range 4 * day {
			if n%60 >= 58 || n%60 == 0 || n < 200 {
				later(t, begin+n)
			}
		}
	}
	eachDay(func(n int, x clock.Time, _ int) {
		if n > 0 && (x.Day == 1 || n%29 == 0) {
			later(t, firstSecond+n*day-1)
		}
	})
	if x, ok := clock.Of(lastSecond); !ok || x != (clock.Time{9999, 12, 31, 23, 59, 59}) {
		t.Errorf("the last time is %v", x)
	}
	notOf(t, lastSecond+1)
}
