package alloc_test

import (
	"fmt"
	"math"
	"math/rand"
	"reflect"
	"slices"
	"testing"

	"shadowbox/alloc"
	"shadowbox/api"
	"shadowbox/extent"
)

func span(from, to int) extent.Span { return extent.Span{From: from, To: to} }

// spans answers spans of the numbers of pairs.
func spans(pairs ...int) []extent.Span {
	l := []extent.Span{}
	for i := 0; i < len(pairs); i += 2 {
		l = append(l, span(pairs[i], pairs[i+1]))
	}
	return l
}

// made answers an Alloc that New must make.
func made(t testing.TB, from, to, reserve int) *alloc.Alloc {
	t.Helper()
	a, e := alloc.New(from, to, reserve)
	if e != api.OK || a == nil {
		t.Fatalf("New(%d, %d, %d) = %v, %d", from, to, reserve, a, e)
	}
	return a
}

func takes(t testing.TB, a *alloc.Alloc, n int, spare bool, want int, wrong api.Errno) {
	t.Helper()
	if at, e := a.Take(n, spare); at != want || e != wrong {
		t.Errorf("Take(%d, %t) = %d, %d, want %d, %d", n, spare, at, e, want, wrong)
	}
}

func uses(t testing.TB, a *alloc.Alloc, from, to int, want api.Errno) {
	t.Helper()
	if e := a.Use(span(from, to)); e != want {
		t.Errorf("Use(%d, %d) = %d, want %d", from, to, e, want)
	}
}

func gives(t testing.TB, a *alloc.Alloc, from, to int, want api.Errno) {
	t.Helper()
	if e := a.Give(span(from, to)); e != want {
		t.Errorf("Give(%d, %d) = %d, want %d", from, to, e, want)
	}
}

func laters(t testing.TB, a *alloc.Alloc, from, to int, want api.Errno) {
	t.Helper()
	if e := a.Later(span(from, to)); e != want {
		t.Errorf("Later(%d, %d) = %d, want %d", from, to, e, want)
	}
}

// counts asks how many sectors are free, waiting and in use, and which ones are free.
func counts(t testing.TB, a *alloc.Alloc, waiting, used int, free ...int) {
	t.Helper()
	want := spans(free...)
	total := 0
	for _, s := range want {
		total += s.To - s.From
	}
	got := a.Spans()
	if a.Free() != total || a.Waiting() != waiting || a.Used() != used || !slices.Equal(got, want) {
		t.Errorf("%d are free, %d wait, %d are in use, and free are %v; want %d, %d, %d, %v",
			a.Free(), a.Waiting(), a.Used(), got, total, waiting, used, want)
	}
}

// seen is all that an Alloc's looks tell.
func seen(a *alloc.Alloc) string {
	return fmt.Sprint(a.Free(), a.Waiting(), a.Used(), a.Spans())
}

// kinds answers of each sector from one on, up to another one, whether it is free (f), waits (w), or is in use (u), by single calls; all is taken back then.
func kinds(t testing.TB, a *alloc.Alloc, from, to int) string {
	t.Helper()
	free := map[int]int{}
	for _, s := range a.Spans() {
		for i := s.From; i < s.To; i++ {
			free[i]++
		}
	}
	m, l := a.Mark(), []byte{}
	for i := from; i < to; i++ {
		e := a.Give(span(i, i+1))
		switch {
		case e == api.OK && free[i] == 0:
			l = append(l, 'u')
		case e == api.ErrNone && free[i] == 1:
			l = append(l, 'f')
		case e == api.ErrNone && free[i] == 0:
			l = append(l, 'w')
		default:
			t.Fatalf("Give(%d, %d) = %d, of a sector that stands %d times in Spans", i, i+1, e, free[i])
		}
	}
	a.Undo(m)
	return string(l)
}

// are asks of each sector whether it is free (f), waits (w), or is in use (u).
func are(t testing.TB, a *alloc.Alloc, from int, want string) {
	t.Helper()
	before := seen(a)
	if got := kinds(t, a, from, from+len(want)); got != want {
		t.Errorf("the sectors from %d on are %s, want %s", from, got, want)
	}
	if seen(a) != before {
		t.Errorf("a mark that is undone lets %s be %s", before, seen(a))
	}
}

func TestExample(t *testing.T) { // the chapter's example 1
	a := made(t, 2, 10, 0)
	takes(t, a, 3, false, 2, api.OK)
	laters(t, a, 2, 5, api.OK)
	takes(t, a, 3, false, 5, api.OK)
	a.Commit()
	takes(t, a, 3, false, 2, api.OK)
}

func TestNew(t *testing.T) { // P10.1
	for _, c := range []struct {
		from, to, reserve int
		want              api.Errno
	}{
		{0, 0, 0, api.OK}, {0, 1, 0, api.OK}, {0, 1, 1, api.OK}, {2, 10, 0, api.OK}, {2, 10, 3, api.OK},
		{-1, 10, 0, api.ErrArg}, {-1, -1, 0, api.ErrArg}, {-1, 0, 0, api.ErrArg}, {-2, -1, 0, api.ErrArg}, // from below 0
		{math.MinInt, 10, 0, api.ErrArg}, {math.MinInt, math.MaxInt, 0, api.ErrArg}, {math.MinInt, math.MinInt, 0, api.ErrArg}, {math.MinInt, api.MaxSectors, 1, api.ErrArg},
		{5, 4, 0, api.ErrArg}, {1, 0, 0, api.ErrArg}, {0, -1, 0, api.ErrArg}, {5, math.MinInt, 0, api.ErrArg}, {8193, 8192, 0, api.ErrArg}, {math.MaxInt, 5, 0, api.ErrArg}, {math.MaxInt, math.MinInt, 0, api.ErrArg}, // to below from
		{5, 5, 0, api.OK}, {5, 6, 0, api.OK}, {8192, 8192, 0, api.OK}, {8191, 8192, 0, api.OK}, {8191, 8191, 0, api.OK}, // to of from
		{0, 8191, 0, api.OK}, {0, 8192, 0, api.OK}, {0, 8193, 0, api.ErrArg}, {8192, 8193, 0, api.ErrArg}, {8193, 8193, 0, api.ErrArg}, {8193, 8194, 0, api.ErrArg}, {0, math.MaxInt, 0, api.ErrArg}, {math.MaxInt, math.MaxInt, 0, api.ErrArg}, // to of MaxSectors
		{2, 10, -1, api.ErrArg}, {2, 10, 1, api.OK}, {2, 10, 7, api.OK}, {2, 10, 8, api.OK}, {2, 10, 9, api.ErrArg}, {2, 10, 10, api.ErrArg}, // reserve
		{2, 10, math.MinInt, api.ErrArg}, {2, 10, math.MinInt + 1, api.ErrArg}, {2, 10, math.MaxInt, api.ErrArg}, {0, 0, math.MaxInt, api.ErrArg}, {0, 0, math.MinInt, api.ErrArg},
		{0, 8192, 8191, api.OK}, {0, 8192, 8192, api.OK}, {0, 8192, 8193, api.ErrArg}, {8192, 8192, 1, api.ErrArg}, {5, 5, 1, api.ErrArg}, {5, 5, -1, api.ErrArg}, {0, 0, 1, api.ErrArg},
	} {
		news(t, c.from, c.to, c.reserve, c.want)
	}
}

// news asks whether New tells an error, and nothing beside it, or else an Alloc in which all is free.
func news(t *testing.T, from, to, reserve int, want api.Errno) {
	t.Helper()
	a, e := alloc.New(from, to, reserve)
	if e != want || (a == nil) != (e != api.OK) {
		t.Fatalf("New(%d, %d, %d) = %v, %d, want the error %d", from, to, reserve, a, e, want)
	}
	if a == nil {
		return
	}
	if from == to {
		counts(t, a, 0, 0)
	} else {
		counts(t, a, 0, 0, from, to)
	}
}

func TestNewOfAll(t *testing.T) { // P10.1: all edges, with each other
	edges := []int{math.MinInt, math.MinInt + 1, -8193, -8192, -2, -1, 0, 1, 2, 3, 4095, 4096, 4097, 8190, 8191, 8192, 8193, 8194, 1 << 31, 1 << 40, 1<<63 - 8193, math.MaxInt - 1, math.MaxInt}
	for _, from := range edges {
		for _, to := range edges {
			for _, reserve := range edges {
				want := api.ErrArg
				if 0 <= from && from <= to && to <= 8192 && 0 <= reserve && reserve <= to-from {
					want = api.OK
				}
				news(t, from, to, reserve, want)
			}
		}
	}
}

func TestNone(t *testing.T) { // P10.2, P10.3, P10.5, P10.7 and the document's rule 1: of nil, or made by none
	full := made(t, 0, 8, 0)
	takes(t, full, 3, false, 0, api.OK)
	mark := full.Mark()
	for _, a := range []*alloc.Alloc{nil, {}, new(alloc.Alloc)} {
		for range 2 {
			for _, n := range []int{math.MinInt, -1, 0, 1, 2, math.MaxInt} {
				takes(t, a, n, false, 0, api.ErrNil)
				takes(t, a, n, true, 0, api.ErrNil)
			}
			for _, s := range append(wrongSpans(0, 8), span(0, 1), span(0, 8), span(3, 5)) {
				uses(t, a, s.From, s.To, api.ErrNil)
				gives(t, a, s.From, s.To, api.ErrNil)
				laters(t, a, s.From, s.To, api.ErrNil)
			}
			a.Commit()
			a.Abort()
			if m := a.Mark(); !reflect.DeepEqual(m, alloc.Mark{}) {
				t.Errorf("Mark of nil, or made by none, is %v", m)
			}
			for _, m := range []alloc.Mark{{}, a.Mark(), mark} {
				a.Undo(m)
				full.Undo(m)
			}
			counts(t, a, 0, 0)
			if l := a.Spans(); len(l) != 0 || cap(l) != 0 {
				t.Errorf("Spans of nil, or made by none, are %v", l)
			}
		}
	}
	are(t, full, 0, "uuufffff")
}

func TestTake(t *testing.T) { // P10.2: n
	for _, spare := range []bool{false, true} {
		a := made(t, 2, 10, 0)
		for _, n := range []int{math.MinInt, math.MinInt + 1, -8192, -8, -2, -1, 0} {
			takes(t, a, n, spare, 0, api.ErrArg)
		}
		for _, n := range []int{9, 10, 8192, 8193, 1 << 40, 1<<63 - 3, math.MaxInt - 1, math.MaxInt} {
			takes(t, a, n, spare, 0, api.ErrSpace)
		}
		counts(t, a, 0, 0, 2, 10)
		takes(t, a, 1, spare, 2, api.OK)
		takes(t, a, 1, spare, 3, api.OK)
		takes(t, a, 5, spare, 4, api.OK)
		counts(t, a, 0, 7, 9, 10)
		takes(t, a, 2, spare, 0, api.ErrSpace)
		takes(t, a, 1, spare, 9, api.OK)
		counts(t, a, 0, 8)
		takes(t, a, 1, spare, 0, api.ErrSpace)
		takes(t, a, 0, spare, 0, api.ErrArg)
		takes(t, a, math.MaxInt, spare, 0, api.ErrSpace)
	}
}

func TestTakeAll(t *testing.T) { // P10.2
	for _, c := range [][2]int{{0, 1}, {0, 8192}, {8191, 8192}, {8190, 8192}, {2, 10}} {
		for _, spare := range []bool{false, true} {
			a, n := made(t, c[0], c[1], 0), c[1]-c[0]
			takes(t, a, n+1, spare, 0, api.ErrSpace)
			takes(t, a, n, spare, c[0], api.OK)
			counts(t, a, 0, n)
			takes(t, a, 1, spare, 0, api.ErrSpace)
		}
	}
	for _, at := range []int{0, 5, 8192} { // of none
		a := made(t, at, at, 0)
		takes(t, a, 1, true, 0, api.ErrSpace)
		takes(t, a, 0, true, 0, api.ErrArg)
		takes(t, a, math.MaxInt, false, 0, api.ErrSpace)
		uses(t, a, at, at, api.ErrArg)
		uses(t, a, at, at+1, api.ErrArg)
		uses(t, a, at-1, at, api.ErrArg)
		a.Commit()
		a.Abort()
		a.Undo(a.Mark())
		counts(t, a, 0, 0)
	}
}

// rows answers an Alloc of the sectors from 2 to 40, in which just some spans are free.
func rows(t testing.TB, reserve int, free ...int) *alloc.Alloc {
	t.Helper()
	a := made(t, 2, 40, reserve)
	uses(t, a, 2, 40, api.OK)
	for _, s := range spans(free...) {
		gives(t, a, s.From, s.To, api.OK)
	}
	a.Commit()
	return a
}

func TestTakeRows(t *testing.T) { // P10.2: the least number of several rows, and not enough side by side
	for _, c := range []struct {
		n, want int
		wrong   api.Errno
	}{
		{1, 2, api.OK}, {2, 2, api.OK}, {3, 10, api.OK}, {5, 10, api.OK}, {6, 30, api.OK}, {7, 30, api.OK},
		{8, 0, api.ErrSpace}, {19, 0, api.ErrSpace}, {20, 0, api.ErrSpace}, {21, 0, api.ErrSpace}, // 20 are free in all
	} {
		for _, spare := range []bool{false, true} {
			a := rows(t, 0, 2, 4, 7, 8, 10, 15, 20, 25, 30, 37)
			takes(t, a, c.n, spare, c.want, c.wrong)
			if c.wrong == api.OK {
				counts(t, a, 0, 18+c.n, cut(c.want, c.want+c.n, 2, 4, 7, 8, 10, 15, 20, 25, 30, 37)...)
			} else {
				counts(t, a, 0, 18, 2, 4, 7, 8, 10, 15, 20, 25, 30, 37)
			}
		}
	}
	a := rows(t, 0, 3, 6, 9, 12) // two rows that are as long: the least number, again and again
	takes(t, a, 3, false, 3, api.OK)
	takes(t, a, 3, false, 9, api.OK)
	takes(t, a, 1, false, 0, api.ErrSpace)
	gives(t, a, 9, 12, api.OK)
	gives(t, a, 3, 6, api.OK)
	takes(t, a, 2, false, 3, api.OK)
	takes(t, a, 2, false, 9, api.OK)
	takes(t, a, 2, false, 0, api.ErrSpace)
	takes(t, a, 1, false, 5, api.OK)
	takes(t, a, 1, false, 11, api.OK)
	counts(t, a, 0, 38)
}

// cut answers pairs without the numbers of the beginning of one of them.
func cut(from, to int, pairs ...int) (l []int) {
	for i := 0; i < len(pairs); i += 2 {
		if pairs[i] != from {
			l = append(l, pairs[i], pairs[i+1])
		} else if to < pairs[i+1] {
			l = append(l, to, pairs[i+1])
		}
	}
	return l
}

func TestReserve(t *testing.T) { // P10.2: what is kept back
	for _, c := range []struct {
		reserve, n int
		spare      bool
		want       api.Errno
	}{
		{3, 4, false, api.OK}, {3, 5, false, api.OK}, {3, 6, false, api.ErrSpace}, {3, 7, false, api.ErrSpace}, {3, 8, false, api.ErrSpace}, {3, 9, false, api.ErrSpace},
		{3, 5, true, api.OK}, {3, 6, true, api.OK}, {3, 7, true, api.OK}, {3, 8, true, api.OK}, {3, 9, true, api.ErrSpace},
		{0, 8, false, api.OK}, {0, 8, true, api.OK}, {1, 7, false, api.OK}, {1, 8, false, api.ErrSpace}, {1, 8, true, api.OK},
		{8, 1, false, api.ErrSpace}, {8, 8, false, api.ErrSpace}, {8, 1, true, api.OK}, {8, 8, true, api.OK}, {8, 9, true, api.ErrSpace},
		{8, 0, false, api.ErrArg}, {8, -1, false, api.ErrArg}, {8, math.MinInt, false, api.ErrArg}, {8, 0, true, api.ErrArg},
		{8, math.MaxInt, false, api.ErrSpace}, {3, math.MaxInt, true, api.ErrSpace}, {7, 1, false, api.OK}, {7, 2, false, api.ErrSpace},
	} {
		a := made(t, 2, 10, c.reserve)
		want, used := 0, 0
		if c.want == api.OK {
			want, used = 2, c.n
		}
		takes(t, a, c.n, c.spare, want, c.want)
		if a.Used() != used || a.Free() != 8-used {
			t.Errorf("Take(%d, %t) of 8, with %d kept back: %d are in use", c.n, c.spare, c.reserve, a.Used())
		}
	}
}

func TestReserveGoesOn(t *testing.T) { // P10.2: what counts is what would be free then, in all, not side by side
	a := rows(t, 4, 3, 6, 9, 12) // 6 are free
	takes(t, a, 3, false, 0, api.ErrSpace)
	takes(t, a, 2, false, 3, api.OK)
	takes(t, a, 1, false, 0, api.ErrSpace)
	takes(t, a, 1, true, 5, api.OK)
	counts(t, a, 0, 35, 9, 12) // fewer than are kept back
	takes(t, a, 1, false, 0, api.ErrSpace)
	takes(t, a, 3, true, 9, api.OK)
	takes(t, a, 1, true, 0, api.ErrSpace)
	laters(t, a, 20, 30, api.OK) // what waits is not free
	takes(t, a, 1, false, 0, api.ErrSpace)
	takes(t, a, 1, true, 0, api.ErrSpace)
	gives(t, a, 30, 35, api.OK)
	takes(t, a, 2, false, 0, api.ErrSpace)
	takes(t, a, 1, false, 30, api.OK)
	a.Commit()
	counts(t, a, 0, 24, 20, 30, 31, 35)
	takes(t, a, 10, false, 20, api.OK) // just 4 stay
	takes(t, a, 1, false, 0, api.ErrSpace)
	uses(t, a, 31, 34, api.OK) // Use asks for nothing to be kept back
	uses(t, a, 34, 35, api.OK)
	counts(t, a, 0, 38)
	a.Abort()
	counts(t, a, 0, 28, 20, 30)
	takes(t, a, 7, false, 0, api.ErrSpace)
	takes(t, a, 6, false, 20, api.OK)
}

// wrongSpans answers spans that are none of the sectors from one on, up to another one.
func wrongSpans(from, to int) []extent.Span {
	l := spans(0, 0, -1, 0, -1, -1, 0, -1, math.MinInt, math.MinInt, math.MinInt, math.MaxInt, math.MaxInt, math.MinInt, math.MaxInt, math.MaxInt,
		math.MinInt, 0, 0, math.MinInt, math.MaxInt, 0, math.MaxInt-1, math.MaxInt, math.MinInt, math.MinInt+1)
	for i := from; i <= to; i++ {
		l = append(l, spans(i, i, i, i-1, i, from-1, i, math.MinInt, math.MaxInt, i, i+1, i, to+1, i, to, i-1)...)
		if i < to {
			l = append(l, spans(i, to+1, i, to+2, i, 8193, i, math.MaxInt, i, 1<<40, i, 1<<40+1)...)
		}
		if i > from {
			l = append(l, spans(from-1, i, from-2, i, -1, i, math.MinInt, i, math.MinInt+1, i)...)
		}
	}
	return append(l, spans(to, to+1, to+1, to+2, from-1, from, from-2, from-1, from-1, to+1, 8192, 8193)...)
}

func TestWrongSpans(t *testing.T) { // P10.2, P10.3: a span that is none of its sectors, whatever is kept
	for _, c := range [][2]int{{2, 10}, {0, 8}, {8184, 8192}} {
		for _, mix := range []string{"ffffffff", "uuuuuuuu", "wwwwwwww", "fuwfuwfu", "wufwufwu"} {
			a := mixed(t, c[0], mix)
			before := seen(a)
			for _, s := range wrongSpans(c[0], c[1]) {
				uses(t, a, s.From, s.To, api.ErrArg)
				gives(t, a, s.From, s.To, api.ErrArg)
				laters(t, a, s.From, s.To, api.ErrArg)
			}
			if seen(a) != before {
				t.Errorf("wrong spans let %s be %s", before, seen(a))
			}
			are(t, a, c[0], mix)
		}
	}
}

// mixed answers an Alloc of as many sectors as a text has letters, from one on, each free (f), waiting (w), or in use (u), as its letter tells.
func mixed(t testing.TB, from int, letters string) *alloc.Alloc {
	t.Helper()
	a := made(t, from, from+len(letters), 0)
	for i, c := range letters {
		if c != 'f' {
			uses(t, a, from+i, from+i+1, api.OK)
		}
		if c == 'w' {
			laters(t, a, from+i, from+i+1, api.OK)
		}
	}
	return a
}

// mixes answers all texts of so many letters f, w and u.
func mixes(n int) []string {
	l := []string{""}
	for range n {
		more := []string{}
		for _, s := range l {
			more = append(more, s+"f", s+"w", s+"u")
		}
		l = more
	}
	return l
}

func TestUseGiveLater(t *testing.T) { // P10.2, P10.3: all spans of six sectors, in each mix of free, waiting and in use
	const n = 6
	for _, mix := range mixes(n) {
		for from := range n {
			for to := from + 1; to <= n; to++ {
				changes(t, mix, from, to)
			}
		}
	}
}

// changes asks what Use, Give and Later make of a span of sectors that are as a text tells.
func changes(t *testing.T, mix string, from, to int) {
	t.Helper()
	for _, c := range []struct {
		call   func(*alloc.Alloc, extent.Span) api.Errno
		of, is byte
		wrong  api.Errno
	}{{(*alloc.Alloc).Use, 'f', 'u', api.ErrThere}, {(*alloc.Alloc).Give, 'u', 'f', api.ErrNone}, {(*alloc.Alloc).Later, 'u', 'w', api.ErrNone}} {
		a, behind, want := mixed(t, 2, mix), []byte(mix), api.OK
		for i := from; i < to; i++ {
			if mix[i] != c.of {
				want = c.wrong
			}
		}
		if want == api.OK {
			for i := from; i < to; i++ {
				behind[i] = c.is
			}
		}
		if e := c.call(a, span(2+from, 2+to)); e != want {
			t.Errorf("of %s, from %d to %d, that are to be %c: %d, want %d", mix, from, to, c.is, e, want)
		}
		are(t, a, 2, string(behind))
	}
}

func TestEnds(t *testing.T) { // P10.2, P10.3: from the first sector on, up to the last one
	for _, c := range [][2]int{{2, 10}, {0, 8192}, {0, 1}, {8191, 8192}} {
		from, to := c[0], c[1]
		a := made(t, from, to, to-from)
		uses(t, a, from, to, api.OK)
		counts(t, a, 0, to-from)
		gives(t, a, from, to, api.OK)
		counts(t, a, 0, 0, from, to)
		uses(t, a, from, to, api.OK)
		laters(t, a, from, to, api.OK)
		counts(t, a, to-from, 0)
		uses(t, a, from, to, api.ErrThere)
		gives(t, a, from, to, api.ErrNone)
		laters(t, a, from, to, api.ErrNone)
		a.Commit()
		counts(t, a, 0, 0, from, to)
		uses(t, a, from, from+1, api.OK)
		uses(t, a, from, from+1, api.ErrThere)
		if to-from > 1 {
			uses(t, a, to-1, to, api.OK)
			uses(t, a, from, to, api.ErrThere)
			uses(t, a, to-1, to+1, api.ErrArg)
			gives(t, a, to-1, to+1, api.ErrArg)
			laters(t, a, from-1, from+1, api.ErrArg)
			counts(t, a, 0, 2, from+1, to-1)
		}
	}
}

func TestTwoTakes(t *testing.T) { // P10.3: of what was taken in two calls, and of a part of what was taken in one
	for _, call := range []func(*alloc.Alloc, extent.Span) api.Errno{(*alloc.Alloc).Give, (*alloc.Alloc).Later} {
		a := made(t, 2, 10, 0)
		takes(t, a, 2, false, 2, api.OK)
		takes(t, a, 3, false, 4, api.OK)
		uses(t, a, 7, 8, api.OK)
		if e := call(a, span(3, 8)); e != api.OK {
			t.Errorf("of what was taken in two calls, and used: %d", e)
		}
		if e := call(a, span(2, 4)); e != api.ErrNone {
			t.Errorf("of what is in use in part: %d", e)
		}
		if a.Used() != 1 || a.Free()+a.Waiting() != 7 {
			t.Error(seen(a))
		}
		a.Commit()
		counts(t, a, 0, 1, 3, 10)
	}
}

func TestWhichError(t *testing.T) { // the document's rule 2: what the chapter names first
	var none *alloc.Alloc
	takes(t, none, 0, false, 0, api.ErrNil) // ErrNil ahead of ErrArg
	uses(t, none, 5, 5, api.ErrNil)
	gives(t, &alloc.Alloc{}, -1, 5, api.ErrNil)
	laters(t, &alloc.Alloc{}, 5, math.MaxInt, api.ErrNil)
	a := made(t, 2, 4, 2)
	takes(t, a, 0, false, 0, api.ErrArg) // ErrArg ahead of ErrSpace
	uses(t, a, 2, 4, api.OK)
	takes(t, a, -1, false, 0, api.ErrArg)
	uses(t, a, 2, 5, api.ErrArg) // ErrArg ahead of ErrThere
	uses(t, a, 1, 4, api.ErrArg)
	uses(t, a, 3, 3, api.ErrArg)
	gives(t, a, 2, 4, api.OK)
	gives(t, a, 2, 5, api.ErrArg) // ErrArg ahead of ErrNone
	gives(t, a, 3, 2, api.ErrArg)
	laters(t, a, 1, 3, api.ErrArg)
	laters(t, a, 4, 4, api.ErrArg)
	counts(t, a, 0, 0, 2, 4)
}

func TestCommit(t *testing.T) { // P10.4, P10.6
	a := made(t, 2, 10, 0)
	a.Commit() // nothing was done
	a.Commit()
	counts(t, a, 0, 0, 2, 10)
	takes(t, a, 8, false, 2, api.OK)
	a.Commit()
	counts(t, a, 0, 8)
	laters(t, a, 2, 4, api.OK)
	laters(t, a, 6, 7, api.OK)
	laters(t, a, 4, 5, api.OK)
	gives(t, a, 9, 10, api.OK)
	are(t, a, 2, "wwwuwuuf")
	counts(t, a, 4, 3, 9, 10)
	takes(t, a, 2, true, 0, api.ErrSpace) // what waits is not taken
	takes(t, a, 1, true, 9, api.OK)
	takes(t, a, 1, true, 0, api.ErrSpace)
	uses(t, a, 2, 3, api.ErrThere)
	are(t, a, 2, "wwwuwuuu")
	a.Commit()
	are(t, a, 2, "fffufuuu")
	a.Commit() // twice in a row
	are(t, a, 2, "fffufuuu")
	takes(t, a, 3, true, 2, api.OK)
	takes(t, a, 1, true, 6, api.OK)
	counts(t, a, 0, 8)
}

func TestAbort(t *testing.T) { // P10.4
	a := made(t, 2, 10, 0)
	a.Abort() // behind New
	a.Abort()
	counts(t, a, 0, 0, 2, 10)
	takes(t, a, 3, false, 2, api.OK)
	a.Abort() // behind Take, with no Commit ahead of it
	counts(t, a, 0, 0, 2, 10)
	takes(t, a, 5, false, 2, api.OK)
	a.Commit()
	a.Abort() // nothing was done
	a.Abort()
	are(t, a, 2, "uuuuufff")
	takes(t, a, 2, false, 7, api.OK)
	gives(t, a, 3, 4, api.OK)
	laters(t, a, 4, 6, api.OK)
	laters(t, a, 8, 9, api.OK)
	gives(t, a, 7, 8, api.OK)
	are(t, a, 2, "ufwwufwf")
	a.Abort() // behind Take, Give and Later
	are(t, a, 2, "uuuuufff")
	a.Commit() // nothing waits any more
	are(t, a, 2, "uuuuufff")
	gives(t, a, 2, 7, api.OK)
	takes(t, a, 8, false, 2, api.OK)
	a.Abort() // what was given back, and taken again
	are(t, a, 2, "uuuuufff")
	laters(t, a, 2, 4, api.OK)
	a.Commit()
	a.Abort() // what waited was free behind the Commit
	are(t, a, 2, "ffuuufff")
}

func TestAbortOfUse(t *testing.T) { // P10.4: what Use took behind the last Commit stays in use
	a := made(t, 2, 10, 0)
	uses(t, a, 4, 6, api.OK)
	takes(t, a, 2, false, 2, api.OK)
	a.Abort() // behind New
	are(t, a, 2, "ffuuffff")
	a.Abort()
	are(t, a, 2, "ffuuffff")
	takes(t, a, 4, false, 6, api.OK)
	gives(t, a, 6, 10, api.OK)
	uses(t, a, 7, 9, api.OK)
	a.Abort() // Use of what was taken and given back since
	are(t, a, 2, "ffuufuuf")
	laters(t, a, 4, 5, api.OK)
	gives(t, a, 5, 6, api.OK)
	a.Abort() // what Use took was given back since, at once and later
	are(t, a, 2, "ffuufuuf")
	a.Commit()
	uses(t, a, 2, 3, api.OK)
	laters(t, a, 7, 9, api.OK)
	takes(t, a, 1, false, 3, api.OK)
	a.Abort() // behind a Commit
	are(t, a, 2, "ufuufuuf")
	gives(t, a, 4, 6, api.OK)
	uses(t, a, 5, 7, api.OK) // of what was in use ahead, and of what was free
	a.Abort()
	are(t, a, 2, "ufuuuuuf")
	gives(t, a, 2, 3, api.OK)
	a.Commit()
	a.Abort() // what Use took, and was given back ahead of the Commit, is free behind it
	are(t, a, 2, "ffuuuuuf")
}

func TestAbortOfUseGiven(t *testing.T) { // P10.4: Use, and then a Give or a Later of it, with no Commit between
	for _, call := range []func(*alloc.Alloc, extent.Span) api.Errno{(*alloc.Alloc).Give, (*alloc.Alloc).Later} {
		for _, commits := range []bool{false, true} {
			a := made(t, 0, 6, 0)
			uses(t, a, 1, 5, api.OK)
			if commits {
				a.Commit()
			}
			if e := call(a, span(2, 4)); e != api.OK {
				t.Error(e)
			}
			a.Abort()
			are(t, a, 0, "fuuuuf")
			if e := call(a, span(1, 3)); e != api.OK {
				t.Error(e)
			}
			a.Commit()
			are(t, a, 0, "fffuuf")
			a.Abort()
			are(t, a, 0, "fffuuf")
		}
	}
}

func TestUseThatFails(t *testing.T) { // P10.4 and the document's rule 2: a Use that tells an error keeps nothing in use
	a := made(t, 0, 6, 0)
	takes(t, a, 3, false, 0, api.OK)
	uses(t, a, 2, 5, api.ErrThere)
	uses(t, a, 4, 7, api.ErrArg)
	a.Abort()
	are(t, a, 0, "ffffff")
}

func TestUndo(t *testing.T) { // P10.7
	a := made(t, 2, 10, 0)
	a.Undo(a.Mark()) // nothing was done behind it
	counts(t, a, 0, 0, 2, 10)
	takes(t, a, 5, false, 2, api.OK)
	laters(t, a, 2, 3, api.OK)
	m := a.Mark()
	a.Undo(m)
	are(t, a, 2, "wuuuufff")
	gives(t, a, 3, 4, api.OK)
	laters(t, a, 4, 6, api.OK)
	uses(t, a, 7, 8, api.OK)
	takes(t, a, 1, false, 3, api.OK)
	are(t, a, 2, "wuwwuuff")
	a.Undo(m)
	are(t, a, 2, "wuuuufff")
	a.Undo(m) // twice in a row
	are(t, a, 2, "wuuuufff")
	takes(t, a, 2, false, 7, api.OK)
	a.Undo(m) // and again
	are(t, a, 2, "wuuuufff")
	a.Undo(alloc.Mark{})
	are(t, a, 2, "wuuuufff")
	a.Commit() // what waited at the mark, and nothing else
	are(t, a, 2, "fuuuufff")
	a.Abort()
	are(t, a, 2, "fuuuufff")
}

func TestTwoMarks(t *testing.T) { // P10.7: of one of two marks, and then of the other one
	marks := func() (*alloc.Alloc, alloc.Mark, alloc.Mark) {
		a := made(t, 0, 6, 0)
		takes(t, a, 3, false, 0, api.OK)
		first := a.Mark()
		laters(t, a, 0, 1, api.OK)
		second := a.Mark()
		gives(t, a, 1, 2, api.OK)
		uses(t, a, 5, 6, api.OK)
		are(t, a, 0, "wfuffu")
		return a, first, second
	}
	a, first, second := marks()
	a.Undo(first)
	are(t, a, 0, "uuufff")
	takes(t, a, 1, false, 3, api.OK)
	a.Undo(second) // that was told behind the first one
	are(t, a, 0, "wuufff")
	a.Undo(first)
	are(t, a, 0, "uuufff")
	a, first, second = marks()
	a.Undo(second)
	are(t, a, 0, "wuufff")
	a.Undo(first)
	are(t, a, 0, "uuufff")
	a.Abort()
	are(t, a, 0, "ffffff")
}

func TestUndoOfUse(t *testing.T) { // P10.4, P10.7: a Use that was undone is not kept by an Abort; one ahead of the mark is
	a := made(t, 0, 6, 0)
	uses(t, a, 0, 2, api.OK)
	m := a.Mark()
	uses(t, a, 2, 4, api.OK)
	a.Undo(m)
	are(t, a, 0, "uuffff")
	takes(t, a, 4, false, 2, api.OK)
	a.Abort()
	are(t, a, 0, "uuffff")
	m = a.Mark()
	gives(t, a, 0, 2, api.OK)
	uses(t, a, 1, 3, api.OK)
	inner := a.Mark()
	a.Undo(m)
	a.Undo(inner)
	are(t, a, 0, "fuufff")
	a.Abort() // what is done behind the mark is done again
	are(t, a, 0, "uuufff")
}

func TestUndoOfLater(t *testing.T) { // P10.4, P10.7
	a := made(t, 0, 6, 0)
	takes(t, a, 4, false, 0, api.OK)
	m := a.Mark()
	laters(t, a, 1, 3, api.OK)
	a.Undo(m)
	counts(t, a, 0, 4, 4, 6)
	a.Commit()
	are(t, a, 0, "uuuuff")
	laters(t, a, 0, 2, api.OK)
	m = a.Mark()
	laters(t, a, 3, 4, api.OK)
	a.Undo(m)
	a.Commit()
	are(t, a, 0, "ffuuff")
}

func TestOldMarks(t *testing.T) { // P10.6, P10.7: of a mark from ahead of a Commit or an Abort, or of another Alloc's, it only ends; each sector is still just one thing
	for _, end := range []func(*alloc.Alloc){(*alloc.Alloc).Commit, (*alloc.Alloc).Abort} {
		a := made(t, 2, 10, 0)
		takes(t, a, 4, false, 2, api.OK)
		laters(t, a, 3, 5, api.OK)
		m := a.Mark()
		uses(t, a, 8, 9, api.OK)
		end(a)
		takes(t, a, 1, false, a.Spans()[0].From, api.OK)
		a.Undo(m)
		whole(t, a, 2, 10)
		a.Commit()
		whole(t, a, 2, 10)
		a.Undo(m)
		whole(t, a, 2, 10)
	}
	small, great := made(t, 4, 6, 0), made(t, 2, 10, 0)
	takes(t, great, 8, false, 2, api.OK)
	m := great.Mark()
	small.Undo(m)
	whole(t, small, 4, 6)
	are(t, great, 2, "uuuuuuuu")
	great.Undo(small.Mark())
	whole(t, great, 2, 10)
	twin := made(t, 2, 10, 0)
	twin.Undo(m)
	whole(t, twin, 2, 10)
}

// whole asks whether each sector is just one of free, waiting and in use, and there are as many of each as is told.
func whole(t testing.TB, a *alloc.Alloc, from, to int) {
	t.Helper()
	n := map[rune]int{}
	for _, c := range kinds(t, a, from, to) {
		n[c]++
	}
	if n['f'] != a.Free() || n['w'] != a.Waiting() || n['u'] != a.Used() || n['f']+n['w']+n['u'] != to-from || !extent.Valid(a.Spans()) {
		t.Errorf("%s, but of %d sectors there are %v", seen(a), to-from, n)
	}
}

func TestSpansAreTheirOwn(t *testing.T) { // P10.5 and the document's rule 4
	junk := span(-77, 77)
	spoil := func(l []extent.Span) {
		l = l[:cap(l)]
		for i := range l {
			l[i] = junk
		}
	}
	a := made(t, 0, 12, 0)
	uses(t, a, 4, 5, api.OK)
	uses(t, a, 7, 8, api.OK)
	m := a.Mark()
	first, second := a.Spans(), a.Spans()
	want := spans(0, 4, 5, 7, 8, 12)
	spoil(first)
	if !slices.Equal(second, want) {
		t.Errorf("Spans is %v, where an earlier answer was written over", second)
	}
	counts(t, a, 0, 2, 0, 4, 5, 7, 8, 12)
	third := a.Spans()
	takes(t, a, 2, false, 0, api.OK)
	laters(t, a, 7, 8, api.OK)
	gives(t, a, 4, 5, api.OK)
	if !slices.Equal(second, want) || !slices.Equal(third, want) {
		t.Errorf("Spans were %v and %v behind calls that came later", second, third)
	}
	spoil(third)
	spoil(a.Spans())
	counts(t, a, 1, 2, 2, 7, 8, 12)
	a.Undo(m)
	counts(t, a, 0, 2, 0, 4, 5, 7, 8, 12)
	spoil(a.Spans())
	takes(t, a, 4, false, 0, api.OK)
	a.Abort()
	counts(t, a, 0, 2, 0, 4, 5, 7, 8, 12)
	spoil(a.Spans())
	a.Commit()
	counts(t, a, 0, 2, 0, 4, 5, 7, 8, 12)
	for _, l := range [][]extent.Span{a.Spans(), made(t, 0, 0, 0).Spans()} { // what is put behind a list goes to nobody
		_ = append(l, junk)
	}
	counts(t, a, 0, 2, 0, 4, 5, 7, 8, 12)
}

func TestAllocsAreApart(t *testing.T) { // one has nothing of another one
	a, b := made(t, 0, 8, 0), made(t, 0, 8, 0)
	takes(t, a, 3, false, 0, api.OK)
	laters(t, a, 0, 2, api.OK)
	counts(t, b, 0, 0, 0, 8)
	b.Commit()
	b.Abort()
	are(t, a, 0, "wwufffff")
	takes(t, b, 8, false, 0, api.OK)
	a.Abort()
	counts(t, a, 0, 0, 0, 8)
	counts(t, b, 0, 8)
}

// plain is what an Alloc must be, sector by sector: free (f), waiting (w), or in use (u).
type plain struct {
	from, to, reserve int
	is, was           []byte // now, and behind the last Commit
	used              []int  // how often Use took it since
}

func newPlain(from, to, reserve int) *plain {
	is := slices.Repeat([]byte{'f'}, to-from)
	return &plain{from, to, reserve, is, slices.Clone(is), make([]int, to-from)}
}

// clone answers what a mark keeps.
func (p *plain) clone() *plain {
	q := *p
	q.is, q.was, q.used = slices.Clone(p.is), slices.Clone(p.was), slices.Clone(p.used)
	return &q
}

func (p *plain) count(c byte) (n int) {
	for _, x := range p.is {
		if x == c {
			n++
		}
	}
	return n
}

func (p *plain) take(n int, spare bool) (int, api.Errno) {
	if n < 1 {
		return 0, api.ErrArg
	}
	for i := 0; n <= len(p.is) && i <= len(p.is)-n; i++ {
		if !p.all('f', i, i+n) {
			continue
		}
		if !spare && p.count('f')-n < p.reserve {
			break
		}
		p.put('u', i, i+n)
		return p.from + i, api.OK
	}
	return 0, api.ErrSpace
}

func (p *plain) all(c byte, from, to int) bool {
	for _, x := range p.is[from:to] {
		if x != c {
			return false
		}
	}
	return true
}

func (p *plain) put(c byte, from, to int) {
	for i := from; i < to; i++ {
		p.is[i] = c
	}
}

// change lets sectors that must be of one kind be of another one.
func (p *plain) change(s extent.Span, of, is byte, wrong api.Errno) api.Errno {
	if s.From < p.from || s.To > p.to || s.From >= s.To {
		return api.ErrArg
	}
	if !p.all(of, s.From-p.from, s.To-p.from) {
		return wrong
	}
	p.put(is, s.From-p.from, s.To-p.from)
	return api.OK
}

func (p *plain) use(s extent.Span) api.Errno {
	e := p.change(s, 'f', 'u', api.ErrThere)
	if e == api.OK {
		for i := s.From; i < s.To; i++ {
			p.used[i-p.from]++
		}
	}
	return e
}

func (p *plain) commit() {
	for i, c := range p.is {
		if c == 'w' {
			p.is[i] = 'f'
		}
	}
	p.was = slices.Clone(p.is)
	clear(p.used)
}

func (p *plain) abort() {
	for i := range p.is {
		p.is[i] = p.was[i]
		if p.used[i] > 0 {
			p.is[i] = 'u'
		}
	}
}

// spans answers which sectors are free.
func (p *plain) spans() (l []extent.Span) {
	for i, c := range p.is {
		if c != 'f' {
			continue
		}
		if i > 0 && p.is[i-1] == 'f' {
			l[len(l)-1].To++
		} else {
			l = append(l, span(p.from+i, p.from+i+1))
		}
	}
	return l
}

// pair is an Alloc, what it must be, and the marks of both since the last Commit or Abort.
type pair struct {
	a     *alloc.Alloc
	p     *plain
	marks []alloc.Mark
	kept  []*plain
}

func newPair(t testing.TB, from, to, reserve int) *pair {
	return &pair{a: made(t, from, to, reserve), p: newPlain(from, to, reserve)}
}

// call is one that changes an Alloc; n is what Take is asked for, or which mark Undo is handed.
type call struct {
	what  byte
	n     int
	spare bool
	s     extent.Span
}

func (c call) String() string {
	return fmt.Sprintf("%c %d %t %d-%d", c.what, c.n, c.spare, c.s.From, c.s.To)
}

// done does a call on an Alloc alone; of marks it knows nothing.
func done(a *alloc.Alloc, c call) (int, api.Errno) {
	switch c.what {
	case 'T':
		return a.Take(c.n, c.spare)
	case 'U':
		return 0, a.Use(c.s)
	case 'G':
		return 0, a.Give(c.s)
	case 'L':
		return 0, a.Later(c.s)
	case 'C':
		a.Commit()
	case 'A':
		a.Abort()
	}
	return 0, api.OK
}

// do does a call; of marks it knows nothing.
func (p *plain) do(c call) (int, api.Errno) {
	switch c.what {
	case 'T':
		return p.take(c.n, c.spare)
	case 'U':
		return 0, p.use(c.s)
	case 'G':
		return 0, p.change(c.s, 'u', 'f', api.ErrNone)
	case 'L':
		return 0, p.change(c.s, 'u', 'w', api.ErrNone)
	case 'C':
		p.commit()
	case 'A':
		p.abort()
	}
	return 0, api.OK
}

// ask does a call on both, and asks whether both tell the same, and are the same then.
func (x *pair) ask(t testing.TB, row []call, c call) {
	t.Helper()
	got, e := done(x.a, c)
	want, wrong := x.p.do(c)
	if got != want || e != wrong {
		t.Fatalf("behind %v: %v = %d, %d, want %d, %d", row, c, got, e, want, wrong)
	}
	switch {
	case c.what == 'C' || c.what == 'A':
		x.marks, x.kept = nil, nil
	case c.what == 'M':
		x.marks, x.kept = append(x.marks, x.a.Mark()), append(x.kept, x.p.clone())
	case c.what == 'R' && c.n < len(x.marks):
		x.a.Undo(x.marks[c.n])
		x.p = x.kept[c.n].clone()
	}
	if !x.same() {
		t.Fatalf("behind %v and %v: %s, want %s", row, c, seen(x.a), x.p.is)
	}
}

// same tells whether an Alloc's looks tell what it must be.
func (x *pair) same() bool {
	return x.a.Free() == x.p.count('f') && x.a.Waiting() == x.p.count('w') && x.a.Used() == x.p.count('u') && slices.Equal(x.a.Spans(), x.p.spans())
}

// letters answers calls of each kind on so many sectors from one on.
func letters(from, n int) (l []call) {
	for k := 1; k <= n; k++ {
		l = append(l, call{what: 'T', n: k}, call{what: 'T', n: k, spare: true})
	}
	for i := from; i < from+n; i++ {
		for j := i + 1; j <= from+n; j++ {
			for _, what := range []byte("UGL") {
				l = append(l, call{what: what, s: span(i, j)})
			}
		}
	}
	return append(l, call{what: 'C'}, call{what: 'A'}, call{what: 'M'}, call{what: 'R'}, call{what: 'R', n: 1})
}

func TestAllShortRows(t *testing.T) { // P10.2 to P10.7: all rows of so many calls on a few sectors
	for _, c := range []struct{ n, calls, reserve int }{{1, 5, 0}, {2, 4, 0}, {2, 4, 1}, {2, 3, 2}, {3, 3, 0}, {3, 3, 2}} {
		shortRows(t, letters(4, c.n), make([]call, c.calls), 0, c.n, c.reserve)
	}
}

// shortRows asks all rows of calls that begin with those that are laid already.
func shortRows(t *testing.T, l, row []call, laid, n, reserve int) {
	for _, c := range l {
		row[laid] = c
		if laid+1 < len(row) {
			shortRows(t, l, row, laid+1, n, reserve)
			continue
		}
		x := newPair(t, 4, 4+n, reserve)
		for i, c := range row {
			x.ask(t, row[:i], c)
		}
		if got := kinds(t, x.a, 4, 4+n); got != string(x.p.is) {
			t.Fatalf("behind %v: %s, want %s", row, got, x.p.is)
		}
	}
}

// some answers a call by chance.
func some(r *rand.Rand, from, to, marks int) call {
	n := to - from
	near := func() int { return from + r.Intn(n+1) }
	c := call{what: "TTTTUUGGGLLLLMMRRCA"[r.Intn(19)], n: 1 + r.Intn(1+n/4), spare: r.Intn(2) == 0}
	if r.Intn(3) > 0 {
		c.n = 1 + r.Intn(3)
	}
	c.s = span(near(), near())
	if r.Intn(4) > 0 {
		c.s.To = c.s.From + 1 + r.Intn(3)
	}
	if r.Intn(25) == 0 {
		c.n = []int{math.MinInt, -1, 0, n, n + 1, math.MaxInt}[r.Intn(6)]
	}
	if r.Intn(25) == 0 {
		c.s = wrongSpans(from, to)[r.Intn(40)]
	}
	if c.what == 'R' {
		c.n = r.Intn(marks + 1)
	}
	if (c.what == 'C' || c.what == 'A') && r.Intn(3) > 0 {
		c.what = 'L'
	}
	return c
}

func TestLongRows(t *testing.T) { // P10.2 to P10.7, over long rows of calls
	r := rand.New(rand.NewSource(10))
	for range 60 {
		n := 1 + r.Intn(48)
		from := []int{0, 2, api.MaxSectors - n}[r.Intn(3)]
		x := newPair(t, from, from+n, r.Intn(n+1)*r.Intn(2))
		row := []call{}
		for range 400 {
			c := some(r, from, from+n, len(x.marks))
			x.ask(t, row, c)
			row = append(row, c)
			if got := kinds(t, x.a, from, from+n); got != string(x.p.is) {
				t.Fatalf("behind %v: %s, want %s", row, got, x.p.is)
			}
		}
	}
}

func TestLongRowsOfMany(t *testing.T) { // P10.2 to P10.7: of a whole disk
	r := rand.New(rand.NewSource(11))
	x := newPair(t, 2, api.MaxSectors, 64)
	for i := range 3000 {
		c := some(r, 2, api.MaxSectors, len(x.marks))
		if c.what == 'C' && i%4 > 0 {
			continue
		}
		x.ask(t, nil, c)
	}
	if got := kinds(t, x.a, 2, api.MaxSectors); got != string(x.p.is) {
		t.Error("the sectors of a whole disk are others")
	}
}

func TestEachSector(t *testing.T) { // P10.2 to P10.6: each sector of a whole disk by itself, every second one given back
	const n = 2048
	a := made(t, 0, n, 0)
	for i := range n {
		takes(t, a, 1, false, i, api.OK)
	}
	for i := 0; i < n; i += 2 {
		laters(t, a, i, i+1, api.OK)
	}
	counts(t, a, n/2, n/2)
	takes(t, a, 1, true, 0, api.ErrSpace)
	a.Commit()
	if a.Free() != n/2 || len(a.Spans()) != n/2 || a.Waiting() != 0 {
		t.Error("every second sector is not free")
	}
	takes(t, a, 2, true, 0, api.ErrSpace)
	for i := 0; i < n; i += 2 {
		takes(t, a, 1, false, i, api.OK)
	}
	gives(t, a, 0, n, api.OK)
	counts(t, a, 0, 0, 0, n)
}

func TestWaitingIsNotTaken(t *testing.T) { // P10.6: no call takes what waits, ahead of a Commit; Undo and Abort let it be as it was
	r := rand.New(rand.NewSource(12))
	for range 200 {
		a := made(t, 0, 24, 0)
		uses(t, a, 0, 24, api.OK)
		waits := map[int]int{}
		for range 12 {
			if from := r.Intn(24); a.Later(span(from, from+1)) == api.OK {
				waits[from]++
			}
		}
		for a.Waiting() == len(waits) && a.Free() < 24-len(waits) { // all that does not wait is given back, and taken
			from := r.Intn(24)
			if e := a.Give(span(from, from+1)); e == api.OK && waits[from] > 0 {
				t.Fatalf("Give of the sector %d, that waits", from)
			}
		}
		for n := 24; n > 0; n-- {
			for {
				at, e := a.Take(n, true)
				if e != api.OK {
					break
				}
				for i := at; i < at+n; i++ {
					if waits[i] > 0 {
						t.Fatalf("Take(%d) = %d, but %d waits", n, at, i)
					}
				}
			}
		}
		if a.Waiting() != len(waits) || a.Free() != 0 || a.Used() != 24-len(waits) {
			t.Fatal(seen(a))
		}
		a.Commit()
		if a.Waiting() != 0 || a.Free() != len(waits) {
			t.Fatal(seen(a))
		}
	}
}

func TestAsIfNotBeen(t *testing.T) { // P10.7: what is done behind an Undo is as if the calls since its mark had not been
	r := rand.New(rand.NewSource(13))
	for range 300 {
		n := 2 + r.Intn(20)
		one, other := made(t, 2, 2+n, 1), made(t, 2, 2+n, 1)
		both := func(calls int) {
			for range calls {
				c := some(r, 2, 2+n, 0)
				at, e := done(one, c)
				want, wrong := done(other, c)
				if at != want || e != wrong || seen(one) != seen(other) {
					t.Fatalf("behind an Undo %v = %d, %d, and then %s; without what was undone %d, %d, and then %s", c, at, e, seen(one), want, wrong, seen(other))
				}
			}
		}
		both(10)
		m := one.Mark()
		for range r.Intn(12) {
			if c := some(r, 2, 2+n, 0); c.what != 'C' && c.what != 'A' { // none of these ends a group
				done(one, c)
			}
		}
		one.Undo(m)
		both(20)
	}
}

func TestErrorsChangeNothing(t *testing.T) { // the document's rule 2: nothing that a later call could tell
	r := rand.New(rand.NewSource(14))
	for range 100 {
		n := 2 + r.Intn(12)
		one, other := newPair(t, 2, 2+n, 1), newPair(t, 2, 2+n, 1)
		for range 80 {
			c := some(r, 2, 2+n, len(one.marks))
			one.ask(t, nil, c)
			// The other one gets those calls alone that tell no error.
			if _, e := other.p.clone().do(c); e == api.OK {
				other.ask(t, nil, c)
			}
			if seen(one.a) != seen(other.a) {
				t.Fatalf("calls that told errors let %s be %s", seen(other.a), seen(one.a))
			}
		}
	}
}
