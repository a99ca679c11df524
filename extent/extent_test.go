package extent_test

import (
	"math"
	"math/rand"
	"slices"
	"testing"

	"shadowbox/extent"
)

const last = 1 << 40 // the greatest To, as the document tells it

// spans answers spans of the numbers of pairs.
func spans(pairs ...int) []extent.Span {
	l := []extent.Span{}
	for i := 0; i < len(pairs); i += 2 {
		l = append(l, span(pairs[i], pairs[i+1]))
	}
	return l
}

func span(from, to int) extent.Span { return extent.Span{From: from, To: to} }

// junk is what lies in spare room, so that it is told where it is read, and where it is written on.
var junk = span(-77, 77)

// roomy answers l with spare room behind it, and a look at whether all of both is as it was.
func roomy(l []extent.Span) (out []extent.Span, untouched func() bool) {
	all := slices.Concat(l, slices.Repeat([]extent.Span{junk}, len(l)+2))
	want := slices.Clone(all)
	return all[:len(l)], func() bool { return slices.Equal(all, want) }
}

// spoil writes over a list, and over its spare room.
func spoil(l []extent.Span) {
	l = l[:cap(l)]
	for i := range l {
		l[i] = junk
	}
}

// changed answers what Add or Remove tells, when it was asked whether it left what it was handed, and whether what it answers is its own.
func changed(t *testing.T, what string, call func([]extent.Span, extent.Span) []extent.Span, l []extent.Span, s extent.Span) []extent.Span {
	t.Helper()
	in, untouched := roomy(l)
	first := call(in, s)
	if !untouched() {
		t.Errorf("%s(%v, %v) changed what was handed in", what, l, s)
	}
	got := slices.Clone(first)
	second := call(in, s)
	spoil(first)
	if !untouched() {
		t.Errorf("%s(%v, %v) shares memory with what was handed in", what, l, s)
	}
	if !slices.Equal(second, got) {
		t.Errorf("%s(%v, %v) = %v, and then %v, or they share memory", what, l, s, got, second)
	}
	if third := call(in, s); !slices.Equal(third, got) {
		t.Errorf("%s(%v, %v) = %v, and then %v", what, l, s, got, third)
	}
	return got
}

func adds(t *testing.T, l []extent.Span, s extent.Span, want []extent.Span) {
	t.Helper()
	if got := changed(t, "Add", extent.Add, l, s); !slices.Equal(got, want) {
		t.Errorf("Add(%v, %v) = %v, want %v", l, s, got, want)
	}
}

func removes(t *testing.T, l []extent.Span, s extent.Span, want []extent.Span) {
	t.Helper()
	if got := changed(t, "Remove", extent.Remove, l, s); !slices.Equal(got, want) {
		t.Errorf("Remove(%v, %v) = %v, want %v", l, s, got, want)
	}
}

// asks asks a call that answers whether something is so, and whether it leaves the spans as they are.
func asks(t *testing.T, what string, call func([]extent.Span, extent.Span) bool, l []extent.Span, s extent.Span, want bool) {
	t.Helper()
	in, untouched := roomy(l)
	if got := call(in, s); got != want {
		t.Errorf("%s(%v, %v) = %t, want %t", what, l, s, got, want)
	}
	if !untouched() {
		t.Errorf("%s(%v, %v) changed what was handed in", what, l, s)
	}
}

func has(t *testing.T, l []extent.Span, s extent.Span, want bool) {
	t.Helper()
	asks(t, "Has", extent.Has, l, s, want)
}

func meets(t *testing.T, l []extent.Span, s extent.Span, want bool) {
	t.Helper()
	asks(t, "Meets", extent.Meets, l, s, want)
}

func valid(t *testing.T, l []extent.Span, want bool) {
	t.Helper()
	in, untouched := roomy(l)
	if got := extent.Valid(in); got != want {
		t.Errorf("Valid(%v) = %t, want %t", l, got, want)
	}
	if !untouched() {
		t.Errorf("Valid(%v) changed what was handed in", l)
	}
}

func total(t *testing.T, l []extent.Span, want int) {
	t.Helper()
	in, untouched := roomy(l)
	if got := extent.Total(in); got != want {
		t.Errorf("Total(%v) = %d, want %d", l, got, want)
	}
	if !untouched() {
		t.Errorf("Total(%v) changed what was handed in", l)
	}
}

func finds(t *testing.T, l []extent.Span, n, want int) {
	t.Helper()
	in, untouched := roomy(l)
	if got := extent.Find(in, n); got != want {
		t.Errorf("Find(%v, %d) = %d, want %d", l, n, got, want)
	}
	if !untouched() {
		t.Errorf("Find(%v, %d) changed what was handed in", l, n)
	}
}

// rightOnes answers spans that are right, those at the edges among them.
func rightOnes() []extent.Span {
	return spans(0, 1, 0, 2, 1, 2, 2, 5, 3, 4, 4, 9, 5, 7, 0, 100, 99, 101, 1<<31-1, 1<<31+1,
		0, last, 1, last, last-1, last, last-2, last-1, last-5, last)
}

// wrongOnes answers spans that are not right.
func wrongOnes() []extent.Span {
	return spans(0, 0, 1, 1, 3, 3, 4, 3, 1, 0, 5, 2, -1, 0, -1, 1, -1, 5, -5, -1, -1, -1, 0, -1, -1, last,
		last, last, last+1, last+1, last, last+1, last-1, last+1, 0, last+1, last, last-1, last+1, last,
		math.MinInt, math.MinInt, math.MinInt, math.MinInt+1, math.MinInt, -1, math.MinInt, 0, math.MinInt, 1, math.MinInt, 5, math.MinInt, last,
		math.MinInt, math.MaxInt, math.MaxInt, math.MinInt, math.MaxInt, math.MaxInt, math.MaxInt-1, math.MaxInt,
		0, math.MaxInt, 3, math.MaxInt, 0, math.MinInt, 3, math.MinInt, last, math.MaxInt, -1, math.MaxInt,
		0, 1<<62, 1<<62, math.MaxInt)
}

// validLists answers lists that are valid.
func validLists() [][]extent.Span {
	return [][]extent.Span{
		nil, {}, spans(0, 1), spans(2, 5), spans(0, 1, 2, 3, 4, 5), spans(0, 1, 4, 9), spans(2, 5, 7, 9),
		spans(3, 4, 5, 20, 21, 22, 1000, 2000), spans(0, last), spans(1, last), spans(0, last-1), spans(last-1, last),
		spans(0, 1, last-1, last), spans(0, last-2, last-1, last), spans(2, 5, 1<<31, 1<<33, last-3, last),
	}
}

// wrongLists answers lists that are not valid.
func wrongLists() (l [][]extent.Span) {
	l = [][]extent.Span{
		spans(2, 5, 5, 7), spans(0, 1, 1, 2), spans(0, 1, 3, 4, 4, 5), // they touch
		spans(2, 5, 4, 7), spans(2, 5, 3, 4), spans(2, 5, 2, 7), spans(3, 4, 2, 7), spans(0, last, 5, 7), spans(2, 5, 0, last), // they overlap
		spans(5, 7, 2, 5), spans(5, 7, 2, 4), spans(4, 6, 0, 1), spans(0, 1, 8, 9, 4, 5), spans(8, 9, 0, 1, 4, 5), spans(last-1, last, 0, 1), // a wrong order
		spans(2, 5, 2, 5), spans(0, 1, 0, 1), spans(0, last, 0, last), spans(0, 1, 4, 5, 4, 5), spans(last-1, last, last-1, last), // one twice
	}
	for _, s := range wrongOnes() {
		l = append(l, []extent.Span{s}, []extent.Span{s, span(100, 200)}, []extent.Span{span(100, 200), s},
			[]extent.Span{span(0, 1), s, span(100, 200)}, []extent.Span{span(2, 3), span(6, 8), s}, []extent.Span{s, s})
	}
	return l
}

// counts answers numbers that Find may be asked for, a list's own lengths among them.
func counts(l []extent.Span) []int {
	n := []int{math.MinInt, math.MinInt + 1, -last, -2, -1, 0, 1, 2, 3, 4, 5, last - 1, last, last + 1, math.MaxInt - 1, math.MaxInt}
	for _, s := range l {
		n = append(n, s.To-s.From-1, s.To-s.From, s.To-s.From+1)
	}
	return n
}

func TestExamples(t *testing.T) { // the chapter's example 1, and the document's example 3
	adds(t, spans(2, 5), span(5, 7), spans(2, 7))
	finds(t, spans(0, 1, 4, 9), 3, 4)
}

func TestValidOfOne(t *testing.T) { // P9.1
	for _, s := range rightOnes() {
		valid(t, []extent.Span{s}, true)
	}
	for _, s := range wrongOnes() {
		valid(t, []extent.Span{s}, false)
	}
	valid(t, make([]extent.Span, 1), false)
}

func TestValidOfPairs(t *testing.T) { // P9.1: right ones, each with each
	for _, a := range rightOnes() {
		for _, b := range rightOnes() {
			valid(t, []extent.Span{a, b}, a.To < b.From)
		}
	}
}

func TestValidLists(t *testing.T) { // P9.1
	for _, l := range validLists() {
		valid(t, l, true)
	}
	for _, l := range wrongLists() {
		valid(t, l, false)
	}
}

func TestValidPlaces(t *testing.T) { // P9.1: a wrong one, or one that touches, at each place of a long list
	long := func() []extent.Span {
		l := []extent.Span{}
		for i := range 40 {
			l = append(l, span(3*i, 3*i+2))
		}
		return l
	}
	valid(t, long(), true)
	for i := range long() {
		for _, s := range append(wrongOnes(), span(last-2, last+1)) {
			l := long()
			l[i] = s
			valid(t, l, false)
		}
		l := long()
		l[i].To++ // and so it touches the one behind, if there is one
		valid(t, l, i == len(l)-1)
		l = long()
		l[i].From-- // and so it touches the one ahead, or begins below 0
		valid(t, l, false)
	}
}

// change is what Add, or Remove, makes of spans.
type change struct {
	what string
	l    []extent.Span
	s    extent.Span
	want []extent.Span
}

func three() []extent.Span { return spans(10, 20, 30, 40, 50, 60) }

func TestAdd(t *testing.T) { // P9.2
	for _, c := range []change{
		{"to nil", nil, span(2, 5), spans(2, 5)},
		{"to none", spans(), span(0, 1), spans(0, 1)},
		{"all to none", nil, span(0, last), spans(0, last)},
		{"the last to none", nil, span(last-1, last), spans(last-1, last)},
		{"ahead of all", three(), span(3, 5), spans(3, 5, 10, 20, 30, 40, 50, 60)},
		{"ahead of all, from 0 on", three(), span(0, 1), spans(0, 1, 10, 20, 30, 40, 50, 60)},
		{"ahead of all, one off", three(), span(5, 9), spans(5, 9, 10, 20, 30, 40, 50, 60)},
		{"ahead of all, touching", three(), span(5, 10), spans(5, 20, 30, 40, 50, 60)},
		{"ahead of all, overlapping", three(), span(5, 11), spans(5, 20, 30, 40, 50, 60)},
		{"behind all", three(), span(63, 65), spans(10, 20, 30, 40, 50, 60, 63, 65)},
		{"behind all, up to the last", three(), span(last-1, last), spans(10, 20, 30, 40, 50, 60, last-1, last)},
		{"behind all, one off", three(), span(61, 65), spans(10, 20, 30, 40, 50, 60, 61, 65)},
		{"behind all, touching", three(), span(60, 65), spans(10, 20, 30, 40, 50, 65)},
		{"behind all, overlapping", three(), span(59, 65), spans(10, 20, 30, 40, 50, 65)},
		{"in between", three(), span(24, 26), spans(10, 20, 24, 26, 30, 40, 50, 60)},
		{"in between, one off of both", three(), span(21, 29), spans(10, 20, 21, 29, 30, 40, 50, 60)},
		{"touching the one ahead", three(), span(20, 25), spans(10, 25, 30, 40, 50, 60)},
		{"touching the one behind", three(), span(25, 30), spans(10, 20, 25, 40, 50, 60)},
		{"touching both", three(), span(20, 30), spans(10, 40, 50, 60)},
		{"overlapping both", three(), span(19, 31), spans(10, 40, 50, 60)},
		{"touching one, overlapping the next", three(), span(20, 31), spans(10, 40, 50, 60)},
		{"within", three(), span(33, 36), three()},
		{"the beginning of one", three(), span(30, 36), three()},
		{"the end of one", three(), span(33, 40), three()},
		{"one of them", three(), span(30, 40), three()},
		{"covering one", three(), span(25, 45), spans(10, 20, 25, 45, 50, 60)},
		{"covering one, from its beginning", three(), span(30, 45), spans(10, 20, 30, 45, 50, 60)},
		{"covering one, up to its end", three(), span(25, 40), spans(10, 20, 25, 40, 50, 60)},
		{"covering several", three(), span(5, 45), spans(5, 45, 50, 60)},
		{"covering several, within the last", three(), span(25, 55), spans(10, 20, 25, 60)},
		{"covering one, touching both others", three(), span(20, 50), spans(10, 60)},
		{"covering all", three(), span(5, 65), spans(5, 65)},
		{"covering just all", three(), span(10, 60), spans(10, 60)},
		{"all that there can be", three(), span(0, last), spans(0, last)},
		{"all to all", spans(0, last), span(0, last), spans(0, last)},
		{"the gap of all", spans(0, 7, 8, last), span(7, 8), spans(0, last)},
		{"the first of all", spans(1, last), span(0, 1), spans(0, last)},
		{"the last of all", spans(0, last-1), span(last-1, last), spans(0, last)},
	} {
		t.Run(c.what, func(t *testing.T) { adds(t, c.l, c.s, c.want) })
	}
}

func TestRemove(t *testing.T) { // P9.2
	for _, c := range []change{
		{"from nil", nil, span(2, 5), nil},
		{"from none", spans(), span(0, last), nil},
		{"ahead of all", three(), span(3, 5), three()},
		{"ahead of all, touching", three(), span(0, 10), three()},
		{"behind all", three(), span(63, 65), three()},
		{"behind all, touching", three(), span(60, last), three()},
		{"in between", three(), span(24, 26), three()},
		{"in between, touching both", three(), span(20, 30), three()},
		{"one of them", three(), span(30, 40), spans(10, 20, 50, 60)},
		{"the first one", three(), span(10, 20), spans(30, 40, 50, 60)},
		{"the last one", three(), span(50, 60), spans(10, 20, 30, 40)},
		{"one, and what is around it", three(), span(20, 50), spans(10, 20, 50, 60)},
		{"the beginning of one", three(), span(30, 33), spans(10, 20, 33, 40, 50, 60)},
		{"the beginning, and ahead of it", three(), span(25, 33), spans(10, 20, 33, 40, 50, 60)},
		{"all but the last number", three(), span(30, 39), spans(10, 20, 39, 40, 50, 60)},
		{"the end of one", three(), span(36, 40), spans(10, 20, 30, 36, 50, 60)},
		{"the end, and behind it", three(), span(36, 45), spans(10, 20, 30, 36, 50, 60)},
		{"all but the first number", three(), span(31, 40), spans(10, 20, 30, 31, 50, 60)},
		{"the middle of one", three(), span(33, 36), spans(10, 20, 30, 33, 36, 40, 50, 60)},
		{"all but both ends", three(), span(31, 39), spans(10, 20, 30, 31, 39, 40, 50, 60)},
		{"parts of two", three(), span(15, 35), spans(10, 15, 35, 40, 50, 60)},
		{"parts of three", three(), span(15, 55), spans(10, 15, 55, 60)},
		{"the last and the first number", three(), span(19, 31), spans(10, 19, 31, 40, 50, 60)},
		{"two whole ones", three(), span(10, 40), spans(50, 60)},
		{"all", three(), span(10, 60), nil},
		{"more than all", three(), span(5, 65), nil},
		{"all that there can be", three(), span(0, last), nil},
		{"all from all", spans(0, last), span(0, last), nil},
		{"the first from all", spans(0, last), span(0, 1), spans(1, last)},
		{"the last from all", spans(0, last), span(last-1, last), spans(0, last-1)},
		{"the middle from all", spans(0, last), span(7, 8), spans(0, 7, 8, last)},
		{"a single number", spans(2, 3, 8, 9), span(8, 9), spans(2, 3)},
	} {
		t.Run(c.what, func(t *testing.T) { removes(t, c.l, c.s, c.want) })
	}
}

// nothing asks whether nothing is done, or told, of spans and one that are not both what they must be.
func nothing(t *testing.T, l []extent.Span, s extent.Span) {
	t.Helper()
	adds(t, l, s, l)
	removes(t, l, s, l)
	has(t, l, s, false)
	meets(t, l, s, false)
}

func TestWrongLists(t *testing.T) { // P9.2, P9.3, P9.4: of spans that are not valid
	for _, l := range wrongLists() {
		for _, s := range slices.Concat(rightOnes(), wrongOnes(), l) {
			nothing(t, l, s)
		}
		total(t, l, 0)
		for _, n := range counts(l) {
			finds(t, l, n, -1)
		}
	}
}

func TestWrongSpans(t *testing.T) { // P9.2, P9.3: of a span that is not right
	for _, l := range validLists() {
		for _, s := range wrongOnes() {
			nothing(t, l, s)
		}
	}
}

func TestHas(t *testing.T) { // P9.3
	l := spans(2, 5, 7, 9, 10, 11)
	for _, s := range spans(2, 5, 2, 3, 3, 4, 4, 5, 2, 4, 3, 5, 7, 9, 7, 8, 8, 9, 10, 11) {
		has(t, l, s, true)
	}
	for _, s := range spans(0, 1, 0, 2, 0, 3, 1, 5, 1, 6, 2, 6, 4, 6, 5, 6, 5, 7, 6, 8, 11, 12, 10, 12, 0, 12, 0, last, 2, last, last-1, last) {
		has(t, l, s, false)
	}
	for _, s := range spans(2, 9, 4, 8, 7, 11, 8, 11, 2, 11) { // its ends are there, but a gap lies in between
		has(t, l, s, false)
	}
}

func TestMeets(t *testing.T) { // P9.3
	l := spans(2, 5, 7, 9, 12, 13)
	for _, s := range spans(2, 3, 4, 5, 0, 3, 1, 3, 4, 7, 4, 6, 3, 4, 2, 5, 0, 20, 5, 8, 6, 8, 8, 12, 8, 10, 12, 13, 9, 13, 10, 14, 0, last, 12, last) {
		meets(t, l, s, true)
	}
	for _, s := range spans(0, 2, 1, 2, 5, 7, 5, 6, 6, 7, 9, 12, 13, 14, 13, last) { // they only touch
		meets(t, l, s, false)
	}
	for _, s := range spans(0, 1, 10, 11, 14, 15, 20, 30, last-1, last) {
		meets(t, l, s, false)
	}
}

func TestHasAndMeets(t *testing.T) { // P9.3: of nothing, of just a span, and of all that there can be
	for _, s := range rightOnes() {
		for _, asked := range []func(*testing.T, []extent.Span, extent.Span, bool){has, meets} {
			asked(t, nil, s, false)
			asked(t, spans(), s, false)
			asked(t, []extent.Span{s}, s, true)
			asked(t, spans(0, last), s, true)
		}
	}
}

func TestTotal(t *testing.T) { // P9.4
	total(t, nil, 0)
	total(t, spans(), 0)
	total(t, spans(0, 1), 1)
	total(t, spans(2, 5, 7, 9, 12, 13), 6)
	total(t, spans(0, last), last)
	total(t, spans(1, last), last-1)
	total(t, spans(0, 7, 8, last), last-1)
	total(t, spans(0, 1, last-1, last), 2)
}

func TestFind(t *testing.T) { // P9.4
	l := spans(2, 4, 7, 8, 10, 15, 20, 25, 30, 37)
	for _, c := range [][2]int{{1, 2}, {2, 2}, {3, 10}, {5, 10}, {6, 30}, {7, 30}, {8, -1}, {19, -1}, {20, -1}, {37, -1}, {last, -1}, {math.MaxInt - 1, -1},
		{math.MaxInt, -1}, {0, -1}, {-1, -1}, {-2, -1}, {-last, -1}, {math.MinInt, -1}, {math.MinInt + 1, -1}} {
		finds(t, l, c[0], c[1])
	}
	finds(t, spans(0, 1), 1, 0)
	finds(t, spans(0, 1), 2, -1)
	finds(t, spans(0, last), 1, 0)
	finds(t, spans(0, last), last, 0)
	finds(t, spans(0, last), last+1, -1)
	finds(t, spans(1, last), last-1, 1)
	finds(t, spans(1, last), last, -1)
	finds(t, spans(0, 1, last-2, last), 2, last-2)
	finds(t, spans(0, 1, last-1, last), 2, -1) // there are two, but not side by side
	for _, n := range counts(nil) {
		finds(t, nil, n, -1)
		finds(t, spans(), n, -1)
	}
}

// plain is a set, as a list of cells: each from one cut up to the next one, with all its numbers or with none.
type plain struct {
	cuts []int
	in   []bool
}

// single answers no set's numbers yet, of n cells of a number each, from one on.
func single(from, n int) plain {
	cuts := []int{}
	for i := range n + 1 {
		cuts = append(cuts, from+i)
	}
	return empty(cuts)
}

func empty(cuts []int) plain { return plain{cuts, make([]bool, len(cuts)-1)} }

// cells tells those that a span between two cuts has.
func (p plain) cells(s extent.Span) []bool {
	return p.in[slices.Index(p.cuts, s.From):slices.Index(p.cuts, s.To)]
}

// with answers the set with a span's numbers, or without them.
func (p plain) with(s extent.Span, in bool) plain {
	q := plain{p.cuts, slices.Clone(p.in)}
	cells := q.cells(s)
	for i := range cells {
		cells[i] = in
	}
	return q
}

func (p plain) list() []extent.Span {
	l := []extent.Span{}
	for i, in := range p.in {
		switch {
		case in && i > 0 && p.in[i-1]:
			l[len(l)-1].To = p.cuts[i+1]
		case in:
			l = append(l, span(p.cuts[i], p.cuts[i+1]))
		}
	}
	return l
}

func (p plain) total() (n int) {
	for i, in := range p.in {
		if in {
			n += p.cuts[i+1] - p.cuts[i]
		}
	}
	return n
}

func (p plain) find(n int) int {
	for i := range p.in {
		to := i
		for to < len(p.in) && p.in[to] {
			to++
		}
		if n >= 1 && p.cuts[to]-p.cuts[i] >= n {
			return p.cuts[i]
		}
	}
	return -1
}

// between answers all spans from one cut to another.
func (p plain) between() (l []extent.Span) {
	for i, from := range p.cuts {
		for _, to := range p.cuts[i+1:] {
			l = append(l, span(from, to))
		}
	}
	return l
}

// sameSet asks all that can be asked of a list against a plain set.
func sameSet(t *testing.T, l []extent.Span, p plain) {
	t.Helper()
	if want := p.list(); !slices.Equal(l, want) {
		t.Fatalf("the spans are %v, want %v", l, want)
	}
	valid(t, l, true)
	total(t, l, p.total())
	for _, n := range counts(l) {
		finds(t, l, n, p.find(n))
	}
}

func TestAllSmallSets(t *testing.T) { // P9.2 to P9.5: all sets of a few numbers, with all spans that meet or touch them
	const n = 8
	for _, from := range []int{0, 1, 1000, last - n - 1, last - n} {
		for bits := range 1 << n {
			p := single(from, n)
			for i := range p.in {
				p.in[i] = bits>>i&1 == 1
			}
			l := p.list()
			sameSet(t, l, p)
			for _, s := range p.between() {
				adds(t, l, s, p.with(s, true).list())
				removes(t, l, s, p.with(s, false).list())
				has(t, l, s, !slices.Contains(p.cells(s), false))
				meets(t, l, s, slices.Contains(p.cells(s), true))
				if !slices.Contains(p.cells(s), true) {
					removes(t, extent.Add(l, s), s, l)
				}
			}
		}
	}
}

// grids answers the cuts of plain sets over which long rows go.
func grids() map[string][]int {
	return map[string][]int{
		"from 0 on":   single(0, 40).cuts,
		"up to 2^40":  single(last-40, 40).cuts,
		"in between":  single(1<<32-20, 40).cuts,
		"far and off": {0, 1, 2, 3, 4, 7, 8, 9, 63, 64, 65, 4096, 1 << 31, 1<<31 + 1, 1 << 32, 1<<32 + 1, 1 << 39, last - 9, last - 3, last - 2, last - 1, last},
	}
}

// anySpan answers a span between two cuts, more often a short one.
func anySpan(r *rand.Rand, cuts []int) extent.Span {
	most := len(cuts) - 1
	if r.Intn(4) > 0 {
		most = 4
	}
	from := r.Intn(len(cuts) - 1)
	return span(cuts[from], cuts[min(from+1+r.Intn(most), len(cuts)-1)])
}

func TestLongRows(t *testing.T) { // P9.2 to P9.5: rows of Add and Remove, held against plain sets
	for what, cuts := range grids() {
		t.Run(what, func(t *testing.T) {
			for seed := range int64(6) {
				r := rand.New(rand.NewSource(seed))
				l, p := []extent.Span(nil), empty(cuts)
				for range 1500 {
					l, p = step(t, r, l, p)
				}
			}
		})
	}
}

// step goes on by one Add or Remove, more often by the one that leaves the set neither empty nor full.
func step(t *testing.T, r *rand.Rand, l []extent.Span, p plain) ([]extent.Span, plain) {
	t.Helper()
	s := anySpan(r, p.cuts)
	has(t, l, s, !slices.Contains(p.cells(s), false))
	meets(t, l, s, slices.Contains(p.cells(s), true))
	wrong := wrongOnes()
	removes(t, l, wrong[r.Intn(len(wrong))], l)
	adds(t, l, wrong[r.Intn(len(wrong))], l)
	if !extent.Meets(l, s) { // P9.5
		removes(t, extent.Add(l, s), s, l)
	}
	before := slices.Clone(l)
	in := r.Intn(2) == 0
	var next []extent.Span
	if in {
		next = extent.Add(l, s)
	} else {
		next = extent.Remove(l, s)
	}
	p = p.with(s, in)
	sameSet(t, next, p)
	if !slices.Equal(l, before) {
		t.Errorf("the spans %v became %v by one more call", before, l)
	}
	spoil(l) // an earlier answer has no memory of a later one
	sameSet(t, next, p)
	return next, p
}

func TestOneListOfASet(t *testing.T) { // P9.5: whatever way a set came about
	for what, cuts := range grids() {
		t.Run(what, func(t *testing.T) {
			r := rand.New(rand.NewSource(7))
			for range 60 {
				p := empty(cuts)
				for i := range p.in {
					p.in[i] = r.Intn(3) > 0
				}
				for range 4 {
					sameSet(t, grown(r, p), p)
					sameSet(t, shrunk(r, p), p)
					sameSet(t, detoured(r, p), p)
				}
			}
		})
	}
}

// grown answers a set's spans by adding its cells, in any order, some twice.
func grown(r *rand.Rand, p plain) (l []extent.Span) {
	for range 2 {
		for _, i := range r.Perm(len(p.in)) {
			if p.in[i] {
				l = extent.Add(l, span(p.cuts[i], p.cuts[i+1]))
			}
		}
	}
	return l
}

// shrunk answers a set's spans by removing what it has not from all that there can be.
func shrunk(r *rand.Rand, p plain) []extent.Span {
	l := spans(0, last)
	first, end := p.cuts[0], p.cuts[len(p.cuts)-1]
	l = extent.Remove(l, span(end, last)) // not right, and so nothing, if the cuts go up to the last one
	l = extent.Remove(l, span(0, first))
	for _, i := range r.Perm(len(p.in)) {
		if !p.in[i] {
			l = extent.Remove(l, span(p.cuts[i], p.cuts[i+1]))
		}
	}
	return l
}

// detoured answers a set's spans by way of other sets.
func detoured(r *rand.Rand, p plain) (l []extent.Span) {
	for range 20 {
		l = extent.Add(l, anySpan(r, p.cuts))
		l = extent.Remove(l, anySpan(r, p.cuts))
	}
	for _, i := range r.Perm(len(p.in)) {
		if s := span(p.cuts[i], p.cuts[i+1]); p.in[i] {
			l = extent.Add(l, s)
		} else {
			l = extent.Remove(l, s)
		}
	}
	return l
}

func TestManySpans(t *testing.T) { // P9.2 to P9.5: a list of many, at each place of which something is done
	const n = 2000
	p := single(0, 4*n+2)
	for i := range n {
		p.in[4*i+1], p.in[4*i+2] = true, true
	}
	l := p.list()
	if len(l) != n {
		t.Fatalf("the list has %d spans", len(l))
	}
	total(t, l, 2*n)
	for i := 0; i < n; i += 97 {
		gap, one := span(4*i+3, 4*i+5), span(4*i+1, 4*i+3)
		adds(t, l, gap, p.with(gap, true).list())
		removes(t, l, one, p.with(one, false).list())
		has(t, l, one, true)
		has(t, l, gap, false)
		meets(t, l, gap, false)
		finds(t, extent.Add(l, gap), 3, p.with(gap, true).find(3))
	}
}
