package part_test

import (
	"fmt"
	"math"
	"math/rand"
	"slices"
	"testing"

	"shadowbox/part"
)

// The limits, as the document tells them.
const (
	longest = 65536
	top     = 1 << 30
)

// junk is what lies in spare room, so that it is told where it is read, and where it is written on.
const junk = -77

// roomy answers l with spare room behind it, and a look at whether all of both is as it was.
func roomy(l []int) (out []int, untouched func() bool) {
	all := slices.Concat(l, slices.Repeat([]int{junk}, len(l)+2))
	want := slices.Clone(all)
	return all[:len(l)], func() bool { return slices.Equal(all, want) }
}

// spoil writes over a list, and over its spare room.
func spoil(l []int) {
	l = l[:cap(l)]
	for i := range l {
		l[i] = junk
	}
}

// brief tells a list so that a long one does not fill the page.
func brief(l []int) string {
	if len(l) <= 40 {
		return fmt.Sprint(l)
	}
	return fmt.Sprintf("%v .. %v (%d in all)", l[:20], l[len(l)-20:], len(l))
}

// cut answers what Cut tells, when it was asked whether it left what it was handed, whether what it answers is its own, and whether it answers so again.
func cut(t *testing.T, sizes []int, most int) []int {
	t.Helper()
	in, untouched := roomy(sizes)
	first := part.Cut(in, most)
	if !untouched() {
		t.Errorf("Cut(%s, %d) changed what was handed in", brief(sizes), most)
	}
	got := slices.Clone(first)
	second := part.Cut(in, most)
	spoil(first)
	if !untouched() {
		t.Errorf("Cut(%s, %d) shares memory with what was handed in", brief(sizes), most)
	}
	if !slices.Equal(second, got) {
		t.Errorf("Cut(%s, %d) = %s, and then %s, or they share memory", brief(sizes), most, brief(got), brief(second))
	}
	spoil(in)
	if !slices.Equal(second, got) {
		t.Errorf("Cut(%s, %d) = %s hangs on what was handed in", brief(sizes), most, brief(got))
	}
	in, _ = roomy(sizes)
	if third := part.Cut(in, most); !slices.Equal(third, got) {
		t.Errorf("Cut(%s, %d) = %s, and then %s", brief(sizes), most, brief(got), brief(third))
	}
	return got
}

func cuts(t *testing.T, sizes []int, most int, want ...int) {
	t.Helper()
	if got := cut(t, sizes, most); !slices.Equal(got, want) {
		t.Errorf("Cut(%s, %d) = %s, want %s", brief(sizes), most, brief(got), brief(want))
	}
}

func greatest(t *testing.T, sizes, ends []int, want int) {
	t.Helper()
	row, rowUntouched := roomy(sizes)
	pieces, piecesUntouched := roomy(ends)
	for range 2 { // the same question has the same answer
		if got := part.Greatest(row, pieces); got != want {
			t.Errorf("Greatest(%s, %s) = %d, want %d", brief(sizes), brief(ends), got, want)
		}
	}
	if !rowUntouched() || !piecesUntouched() {
		t.Errorf("Greatest(%s, %s) changed what was handed in", brief(sizes), brief(ends))
	}
}

func sum(l []int) (n int) {
	for _, x := range l {
		n += x
	}
	return n
}

// sums answers the sum of each piece.
func sums(sizes, ends []int) (l []int) {
	from := 0
	for _, end := range ends {
		l = append(l, sum(sizes[from:end]))
		from = end
	}
	return l
}

// allCuts answers all the ends at which a row of n sizes can be cut into pieces that are not empty.
func allCuts(n int) (all [][]int) {
	for places := range 1 << (n - 1) {
		ends := []int{}
		for i := range n - 1 {
			if places>>i&1 == 1 {
				ends = append(ends, i+1)
			}
		}
		all = append(all, append(ends, n))
	}
	return all
}

// longer tells whether the first piece, then the second, and so on, of a cut has more sizes than those of another.
func longer(a, b []int) bool { return slices.Compare(a, b) > 0 }

// better tells whether a cut is better than another, by the chapter's words.
func better(sizes, a, b []int) bool {
	if len(a) != len(b) {
		return len(a) < len(b)
	}
	if x, y := slices.Max(sums(sizes, a)), slices.Max(sums(sizes, b)); x != y {
		return x < y
	}
	return longer(a, b)
}

// plainCut answers the best of all cuts of a row that has one, each held against the others.
func plainCut(sizes []int, most int, all [][]int) (best []int) {
	for _, ends := range all {
		if slices.Max(sums(sizes, ends)) > most {
			continue
		}
		if best == nil || better(sizes, ends, best) {
			best = ends
		}
	}
	return best
}

// rows calls look with each row of n sizes from 0 to most.
func rows(n, most int, look func(sizes []int)) {
	sizes := make([]int, n)
	for {
		look(sizes)
		i := 0
		for i < n && sizes[i] == most {
			sizes[i] = 0
			i++
		}
		if i == n {
			return
		}
		sizes[i]++
	}
}

// anyRow answers a row of n sizes from 0 to most.
func anyRow(r *rand.Rand, n, most int) []int {
	sizes := make([]int, n)
	for i := range sizes {
		sizes[i] = r.Intn(most + 1)
	}
	return sizes
}

// same answers a row of n sizes that are all the same one.
func same(n, size int) []int { return slices.Repeat([]int{size}, n) }

// each answers the ends of n pieces of one size each.
func each(n int) []int {
	ends := make([]int, n)
	for i := range ends {
		ends[i] = i + 1
	}
	return ends
}

// wrongMosts answers bounds that are none.
func wrongMosts() []int {
	return []int{math.MinInt, math.MinInt + 1, -top - 1, -top, -2, -1, 0, top + 1, top + 2, 1 << 31, 1<<32 + 5, 1<<40 + 5, math.MaxInt - 1, math.MaxInt}
}

// wrongSizes answers sizes that are wrong by any bound from 1 to most.
func wrongSizes(most int) []int {
	return []int{-1, -2, -most, -top, -1 << 31, -1 << 32, math.MinInt, math.MinInt + 1, most + 1, most + 2, 2*top + 1, 1<<32 + 1, 1 << 32, 1 << 40, math.MaxInt - 1, math.MaxInt}
}

func TestExamples(t *testing.T) { // the chapter's example 1
	cuts(t, []int{3, 3, 3, 3}, 8, 2, 4)
	cuts(t, []int{5, 1, 1, 1}, 6, 1, 4)
	greatest(t, []int{3, 3, 3, 3}, []int{2, 4}, 6)
	greatest(t, []int{5, 1, 1, 1}, []int{1, 4}, 5)
}

func TestCutOfOrdinaryRows(t *testing.T) { // P17.1
	cuts(t, []int{7}, 7, 1)
	cuts(t, []int{7}, 8, 1)
	cuts(t, []int{0}, 1, 1)
	cuts(t, []int{3, 4}, 7, 2)
	cuts(t, []int{3, 4}, 6, 1, 2)
	cuts(t, []int{3, 4}, 4, 1, 2)
	cuts(t, []int{1, 2, 3, 4, 5}, 15, 5)
	cuts(t, []int{1, 2, 3, 4, 5}, 14, 3, 5)
	cuts(t, []int{1, 2, 3, 4, 5}, 9, 3, 5)
	cuts(t, []int{1, 2, 3, 4, 5}, 8, 3, 4, 5)
	cuts(t, []int{5, 4, 3, 2, 1}, 9, 2, 5)
	cuts(t, []int{9, 9, 9, 9}, 10, 1, 2, 3, 4)
	cuts(t, []int{100, 200, 300, 400, 500, 600, 700, 800, 900}, 1700, 5, 7, 9)
	// No piece is filled up to most where as few smaller ones do.
	cuts(t, []int{6, 1, 1, 1, 1, 1, 1, 6}, 8, 1, 7, 8)
	cuts(t, []int{6, 1, 1, 1, 1, 6}, 8, 3, 6)
	cuts(t, []int{6, 1, 1, 1, 1, 6}, 7, 1, 5, 6)
	cuts(t, []int{6, 1, 1, 1, 6}, 8, 3, 5)
	// The first piece takes as much as the greatest one has, wherever that is.
	cuts(t, []int{1, 1, 1, 9, 1, 1}, 10, 3, 4, 6)
	cuts(t, []int{1, 1, 1, 9, 1}, 10, 3, 5)
	cuts(t, []int{2, 2, 2, 2, 2, 2, 2}, 8, 4, 7)
	cuts(t, []int{2, 2, 2, 2, 2, 2, 2}, 6, 3, 6, 7)
	cuts(t, []int{2, 2, 2, 2, 2, 2, 2}, 5, 2, 4, 6, 7)
}

func TestCutOfZeros(t *testing.T) { // P17.1: sizes of 0 make no piece greater, and the first one takes them
	for _, most := range []int{1, 2, top - 1, top} {
		for _, n := range []int{1, 2, 3, 100, longest - 1, longest} {
			cuts(t, same(n, 0), most, n)
		}
	}
	cuts(t, []int{0, 0, 5, 5}, 5, 3, 4)
	cuts(t, []int{5, 5, 0, 0}, 5, 1, 4)
	cuts(t, []int{5, 0, 0, 5}, 5, 3, 4)
	cuts(t, []int{5, 0, 0, 5}, 9, 3, 4)
	cuts(t, []int{5, 0, 0, 5}, 10, 4)
	cuts(t, []int{0, 5, 0, 5, 0}, 5, 3, 5)
	cuts(t, []int{0, 1, 0, 0, 2, 0, 3, 0}, 3, 6, 8)
	cuts(t, []int{0, 0, 1, 1, 0, 0, 1, 0}, 1, 3, 6, 8)
}

func TestCutOfNoSizes(t *testing.T) { // P17.1
	for _, most := range append(wrongMosts(), 1, 2, 7, top-1, top) {
		cuts(t, nil, most)
		cuts(t, []int{}, most)
	}
}

func TestCutOfTooManySizes(t *testing.T) { // P17.1: 65536 are not too many, 65537 are
	for _, size := range []int{0, 1, 7} {
		cuts(t, same(longest, size), size*longest+1, longest)
		for _, n := range []int{longest + 1, longest + 2, 2 * longest, 1 << 20} {
			cuts(t, same(n, size), size*n+1)
			cuts(t, same(n, size), 7)
			cuts(t, same(n, size), top)
		}
	}
	cuts(t, same(longest, 1), 1, each(longest)...)
	cuts(t, same(longest+1, 1), 1)
}

func TestCutByWrongMosts(t *testing.T) { // P17.1
	for _, most := range wrongMosts() {
		for _, sizes := range [][]int{{0}, {1}, {0, 0}, {0, 1, 2}, {3, 3, 3, 3}, {top}, same(100, 5), {-1}, {math.MinInt}, {math.MaxInt}, {most}, {most, most}} {
			cuts(t, sizes, most)
		}
		cuts(t, same(longest, 0), most)
	}
}

func TestCutByEdgesOfMost(t *testing.T) { // P17.1
	cuts(t, []int{0}, 1, 1)
	cuts(t, []int{1}, 1, 1)
	cuts(t, []int{1, 1}, 1, 1, 2)
	cuts(t, []int{2}, 1)
	for _, n := range []int{1, 2, 5} {
		cuts(t, same(n, top), top, each(n)...)
		cuts(t, same(n, top-1), top-1, each(n)...)
		cuts(t, same(n, top-1), top, each(n)...)
		cuts(t, same(n, top), top-1)
		cuts(t, same(n, top+1), top)
		cuts(t, same(n, top+1), top+1)
	}
	cuts(t, []int{top / 2, top / 2}, top, 2)
	cuts(t, []int{top / 2, top/2 + 1}, top, 1, 2)
	cuts(t, []int{top - 1, 1, 1}, top, 1, 3)
	cuts(t, []int{1, 1, top - 1}, top, 2, 3)
	cuts(t, []int{1, 2, 3}, top, 3)
	cuts(t, []int{1, 2, 3}, top-1, 3)
	// Far above the sum of all.
	cuts(t, []int{7}, top, 1)
	cuts(t, same(1000, 3), top, 1000)
	cuts(t, same(longest, 1), top, longest)
}

func TestCutOfAWrongSize(t *testing.T) { // P17.1: the first one, the last one, and one between
	for _, most := range []int{1, 2, 9, 1000, top - 1, top} {
		for _, wrong := range wrongSizes(most) {
			cuts(t, []int{wrong}, most)
			cuts(t, []int{wrong, wrong}, most)
			for _, n := range []int{2, 3, 8, 301} {
				for _, place := range []int{0, 1, n / 2, n - 2, n - 1} {
					for _, size := range []int{0, 1, most} {
						sizes := same(n, size)
						sizes[place] = wrong
						cuts(t, sizes, most)
					}
				}
			}
		}
	}
	for _, wrong := range wrongSizes(top) {
		for _, place := range []int{0, longest / 2, longest - 1} {
			sizes := same(longest, 1)
			sizes[place] = wrong
			cuts(t, sizes, top)
		}
	}
}

func TestCutOfSizesAtMost(t *testing.T) { // P17.1: a size may be just most
	for _, most := range []int{1, 2, 9, 1000, top - 1, top} {
		cuts(t, []int{most}, most, 1)
		cuts(t, []int{most, 1}, most, 1, 2)
		cuts(t, []int{1, most}, most, 1, 2)
		cuts(t, []int{1, most, 1}, most, 1, 2, 3)
		cuts(t, []int{0, most, 0}, most, 3)
		cuts(t, []int{most, 0, most}, most, 2, 3)
		cuts(t, same(7, most), most, each(7)...)
	}
}

func TestCutByTheSum(t *testing.T) { // P17.1: a row fits into one piece if its sum is at most most
	r := rand.New(rand.NewSource(1))
	for _, n := range []int{1, 2, 3, 10, 100, 5000} {
		for _, scale := range []int{1, 7, 1000, top / n} {
			sizes := anyRow(r, n, scale)
			sizes[r.Intn(n)] = scale // so that the row is not of zeros
			all := sum(sizes)
			cuts(t, sizes, all, n)
			if all < top {
				cuts(t, sizes, all+1, n)
			}
			if n == 1 && all > 1 {
				cuts(t, sizes, all-1)
			} else if all-1 >= slices.Max(sizes) {
				if got := cut(t, sizes, all-1); len(got) != 2 {
					t.Errorf("Cut(%s, %d) = %s, want two pieces", brief(sizes), all-1, brief(got))
				}
			}
		}
	}
}

func TestCutOfAllShortRows(t *testing.T) { // P17.1, P17.3: all cuts of each row gone through, by each bound
	for _, of := range []struct{ n, most int }{{1, 9}, {2, 9}, {3, 6}, {4, 5}, {5, 3}, {6, 2}, {7, 2}, {8, 1}, {9, 1}} {
		all := allCuts(of.n)
		rows(of.n, of.most, func(sizes []int) {
			for most := 1; most <= sum(sizes)+2; most++ {
				if slices.Max(sizes) > most {
					if got := part.Cut(sizes, most); len(got) != 0 {
						t.Fatalf("Cut(%v, %d) = %v, want nothing", sizes, most, got)
					}
					continue
				}
				got := part.Cut(sizes, most)
				if want := plainCut(sizes, most, all); !slices.Equal(got, want) {
					t.Fatalf("Cut(%v, %d) = %v, want %v", sizes, most, got, want)
				}
				sideBySide(t, sizes, most, got)
			}
		})
	}
}

func TestCutOfLongerRows(t *testing.T) { // P17.1, P17.3: all cuts gone through, of sizes of all kinds
	r := rand.New(rand.NewSource(2))
	for n := 5; n <= 11; n++ {
		all := allCuts(n)
		for _, scale := range []int{1, 3, 10, 100, 1 << 20, top / 4, top} {
			for range 12 {
				sizes := anyRow(r, n, scale)
				if r.Intn(2) == 0 {
					sizes[r.Intn(n)] = 0
				}
				for _, most := range bounds(r, sizes) {
					cuts(t, sizes, most, plainCut(sizes, most, all)...)
					sideBySide(t, sizes, most, cut(t, sizes, most))
				}
			}
		}
	}
}

// bounds answers bounds of a row at which there is a cut.
func bounds(r *rand.Rand, sizes []int) (l []int) {
	least, all := slices.Max(sizes), sum(sizes)
	for _, most := range []int{least, least + 1, all - 1, all, all + 1, all / 2, all/2 + 1, all/3 + 1, least + r.Intn(all+1), least + r.Intn(least+1), top - 1, top} {
		if most >= least && most >= 1 && most <= top {
			l = append(l, most)
		}
	}
	return l
}

// table answers for each place of a row, and each number of pieces up to few, what the greatest piece of the sizes from that place on is at least, when they are cut into so many.
func table(sizes []int, few int) [][]int {
	n := len(sizes)
	out := [][]int{slices.Repeat([]int{math.MaxInt}, n+1)}
	out[0][n] = 0
	for k := 1; k <= few; k++ {
		least := slices.Repeat([]int{math.MaxInt}, n+1)
		for i := range n {
			piece := 0
			for j := i + 1; j <= n; j++ {
				piece += sizes[j-1]
				least[i] = min(least[i], max(piece, out[k-1][j]))
			}
		}
		out = append(out, least)
	}
	return out
}

// tableCut answers the best cut of a row that has one, by what is known of all cuts of what is behind each place.
func tableCut(sizes []int, most int) (ends []int) {
	n := len(sizes)
	known := table(sizes, n)
	few := 1
	for known[few][0] > most {
		few++
	}
	b, from := known[few][0], 0
	for left := few - 1; left >= 0; left-- {
		end := n
		for sum(sizes[from:end]) > b || known[left][end] > b {
			end--
		}
		ends = append(ends, end)
		from = end
	}
	return ends
}

func TestCutByTables(t *testing.T) { // P17.1, P17.3: rows of which not all cuts can be gone through
	r := rand.New(rand.NewSource(3))
	for _, n := range []int{1, 2, 13, 20, 31, 50, 77} {
		for _, scale := range []int{1, 4, 50, 4096, 1 << 22, top} {
			sizes := anyRow(r, n, scale)
			if r.Intn(2) == 0 {
				for range n / 3 {
					sizes[r.Intn(n)] = r.Intn(scale/8 + 1)
				}
			}
			for _, most := range bounds(r, sizes) {
				cuts(t, sizes, most, tableCut(sizes, most)...)
				sideBySide(t, sizes, most, cut(t, sizes, most))
			}
		}
	}
}

// fewest answers how many pieces of a bound a row needs: gone through from behind, while the chapter's pieces are long from the first one on.
func fewest(sizes []int, bound int) int {
	pieces, piece := 1, 0
	for i := len(sizes) - 1; i >= 0; i-- {
		if piece+sizes[i] > bound {
			pieces++
			piece = 0
		}
		piece += sizes[i]
	}
	return pieces
}

// sideBySide asks all that the chapter says of a cut that is told: the ends rise up to how many sizes there are, no piece is empty or above most, there are as few as can be, no bound below the greatest piece has so few, and P17.3.
func sideBySide(t *testing.T, sizes []int, most int, ends []int) {
	t.Helper()
	if len(ends) == 0 || ends[0] < 1 || ends[len(ends)-1] != len(sizes) || !slices.IsSorted(ends) || len(slices.Compact(slices.Clone(ends))) != len(ends) {
		t.Fatalf("Cut(%s, %d) = %s: these are no ends of pieces", brief(sizes), most, brief(ends))
	}
	pieces := sums(sizes, ends)
	b := slices.Max(pieces)
	if b > most {
		t.Errorf("Cut(%s, %d) = %s has a piece of %d", brief(sizes), most, brief(ends), b)
	}
	if need := fewest(sizes, most); len(ends) != need {
		t.Errorf("Cut(%s, %d) = %s has %d pieces, want %d", brief(sizes), most, brief(ends), len(ends), need)
	}
	if b > slices.Max(sizes) && fewest(sizes, b-1) == len(ends) {
		t.Errorf("Cut(%s, %d) = %s has a piece of %d, and one of %d is enough", brief(sizes), most, brief(ends), b, b-1)
	}
	for i := 1; i < len(pieces); i++ {
		if next := sizes[ends[i-1]]; pieces[i-1]+next <= b {
			t.Errorf("Cut(%s, %d) = %s: the piece %d, of %d, could take %d more", brief(sizes), most, brief(ends), i-1, pieces[i-1], next)
		}
		if pieces[i-1]+pieces[i] <= most {
			t.Errorf("Cut(%s, %d) = %s: the pieces %d and %d are one", brief(sizes), most, brief(ends), i-1, i)
		}
	}
	if got := part.Greatest(sizes, ends); got != b {
		t.Errorf("Greatest(%s, %s) = %d, want %d", brief(sizes), brief(ends), got, b)
	}
}

func TestPiecesSideBySide(t *testing.T) { // P17.3, and P17.1 of long rows
	r := rand.New(rand.NewSource(4))
	for _, n := range []int{2, 10, 200, 3000, longest - 1, longest} {
		for _, scale := range []int{1, 9, 200, 4096, top / n, top / 3, top} {
			sizes := anyRow(r, n, scale)
			for _, most := range bounds(r, sizes) {
				sideBySide(t, sizes, most, part.Cut(sizes, most))
			}
		}
	}
}

func TestCutOfRowsInOrder(t *testing.T) { // P17.1: rows that rise, that fall, and whose great sizes stand at one end
	for _, n := range []int{5, 40, 1000} {
		rise := each(n)
		fall := slices.Clone(rise)
		slices.Reverse(fall)
		ends := slices.Concat(same(n, 1), []int{n})
		begins := slices.Concat([]int{n}, same(n, 1))
		for _, sizes := range [][]int{rise, fall, ends, begins} {
			for _, most := range []int{n, n + 1, 2*n - 1, 2 * n, 2*n + 1, n * n / 3, n * n / 2, n * n, top} {
				got := cut(t, sizes, most)
				sideBySide(t, sizes, most, got)
				if n <= 40 {
					cuts(t, sizes, most, tableCut(sizes, most)...)
				}
			}
		}
	}
}

func TestNoSumWraps(t *testing.T) { // P17.1, P17.2: rows of as many as there can be, of as great as they can be
	row := same(longest, top)
	cuts(t, row, top, each(longest)...)
	greatest(t, row, each(longest), top)
	greatest(t, row, []int{longest}, longest*top)
	greatest(t, row, []int{1, longest}, (longest-1)*top)
	greatest(t, row, []int{longest / 2, longest}, longest/2*top)
	for _, n := range []int{2, 3, 4, 5, 8, 1 << 10} { // beyond 2^31, 2^32 and 2^40
		greatest(t, same(n, top), []int{n}, n*top)
		greatest(t, slices.Concat(same(n, top), []int{7}), []int{n, n + 1}, n*top)
		greatest(t, slices.Concat([]int{7}, same(n, top)), []int{1, n + 1}, n*top)
	}
	// A row may be longer than one that Cut takes.
	greatest(t, same(1<<20, top), []int{1 << 20}, 1<<50)
	greatest(t, same(longest+1, 1), []int{longest + 1}, longest+1)
	greatest(t, same(longest+1, 1), []int{3, longest + 1}, longest-2)
}

func TestGreatestOfCuts(t *testing.T) { // P17.2: of all cuts of a row, those of Cut among them
	r := rand.New(rand.NewSource(5))
	for n := 1; n <= 8; n++ {
		for _, scale := range []int{0, 1, 5, 1000, top} {
			sizes := anyRow(r, n, scale)
			for _, ends := range allCuts(n) {
				greatest(t, sizes, ends, slices.Max(sums(sizes, ends)))
			}
			greatest(t, sizes, []int{n}, sum(sizes))
			greatest(t, sizes, each(n), slices.Max(sizes))
		}
	}
	for _, n := range []int{1, 2, 50} { // pieces of sizes that are all 0
		greatest(t, same(n, 0), []int{n}, 0)
		greatest(t, same(n, 0), each(n), 0)
	}
	greatest(t, []int{0, 0, 4, 0}, []int{2, 4}, 4)
	greatest(t, []int{4, 0, 0, 0}, []int{2, 4}, 4)
	greatest(t, []int{1, 2, 3, 4}, []int{1, 2, 4}, 7)
	greatest(t, []int{1, 9, 3, 4}, []int{1, 2, 4}, 9)
	greatest(t, []int{10, 9, 3, 4}, []int{1, 2, 4}, 10)
}

// plainEnds tells whether ends are what P17.2 asks of them, by its words.
func plainEnds(ends []int, n int) bool {
	if len(ends) == 0 || ends[0] < 1 || ends[len(ends)-1] != n {
		return false
	}
	for i := range ends {
		for j := range i {
			if ends[j] >= ends[i] {
				return false
			}
		}
	}
	return true
}

func TestGreatestOfAllShortEnds(t *testing.T) { // P17.2: ends of all kinds, of short rows
	for n := range 5 {
		sizes := []int{7, 11, 13, 17}[:n]
		for many := range 5 {
			rows(many, n+3, func(shifted []int) {
				ends := slices.Clone(shifted)
				for i := range ends {
					ends[i]-- // from -1 on, to two behind the last size
				}
				want := 0
				if plainEnds(ends, n) {
					want = slices.Max(sums(sizes, ends))
				}
				greatest(t, sizes, ends, want)
			})
		}
	}
}

func TestGreatestOfWrongEnds(t *testing.T) { // P17.2
	sizes := []int{5, 6, 7, 8, 9}
	greatest(t, sizes, []int{2, 4, 5}, 15)
	for what, ends := range map[string][]int{
		"none":       {},
		"at 0":       {0, 2, 5},
		"below 0":    {-1, 2, 5},
		"only 0":     {0},
		"the same":   {2, 2, 5},
		"last twice": {2, 5, 5},
		"falling":    {4, 2, 5},
		"fall back":  {2, 5, 4},
		"all fall":   {5, 4, 3, 2, 1},
		"ahead":      {2, 4},
		"behind":     {2, 6},
		"far behind": {2, 500},
		"and behind": {2, 5, 6},
		"more":       {1, 2, 3, 4, 5, 6},
		"zeros":      {0, 0, 0, 0, 0},
		"one ahead":  {4},
		"one behind": {6},
	} {
		t.Run(what, func(t *testing.T) { greatest(t, sizes, ends, 0) })
	}
	greatest(t, sizes, nil, 0)
	for _, far := range []int{math.MinInt, math.MinInt + 1, -1 << 32, -5, -1, 0, 6, 7, 1<<32 + 1, 1<<32 + 5, math.MaxInt - 1, math.MaxInt} {
		for _, ends := range [][]int{{far}, {far, 5}, {2, far}, {2, far, 5}, {2, 5, far}, {far, far}, {far, 2, 5}, {5, far}, {2, 4, far}} {
			greatest(t, sizes, ends, 0)
		}
	}
	greatest(t, sizes, []int{math.MinInt, math.MaxInt}, 0)
	greatest(t, sizes, []int{math.MaxInt, math.MinInt}, 0)
	greatest(t, sizes, slices.Concat(each(5), each(5)), 0)
	greatest(t, sizes, each(longest), 0)
}

func TestGreatestOfNoSizes(t *testing.T) { // P17.2
	for _, ends := range [][]int{nil, {}, {0}, {1}, {-1}, {-1, 0}, {0, 0}, {0, 1}, {1, 0}, {math.MinInt}, {math.MaxInt}, {math.MinInt, 0}} {
		greatest(t, nil, ends, 0)
		greatest(t, []int{}, ends, 0)
	}
}

func TestGreatestOfWrongSizes(t *testing.T) { // P17.2: ahead of the greatest piece, in it, and behind it
	for _, size := range []int{-1, -2, -top, -1 << 32, math.MinInt, math.MinInt + 1, top + 1, top + 2, 2 * top, 1 << 32, 1<<32 + 3, math.MaxInt - 1, math.MaxInt} {
		greatest(t, []int{size}, []int{1}, 0)
		greatest(t, []int{size, size}, []int{2}, 0)
		greatest(t, []int{size, size}, []int{1, 2}, 0)
		greatest(t, []int{size, -size}, []int{2}, 0)
		for place := range 7 {
			for _, ends := range allCuts(7) {
				sizes := []int{1, 2, 900, 0, 1000, 3, 2}
				greatest(t, sizes, ends, slices.Max(sums(sizes, ends)))
				sizes[place] = size
				greatest(t, sizes, ends, 0)
			}
		}
	}
	for _, size := range []int{0, 1, top - 1, top} { // these are right
		greatest(t, []int{size}, []int{1}, size)
		greatest(t, []int{size, 0}, []int{2}, size)
		greatest(t, []int{0, size}, []int{1, 2}, size)
		greatest(t, []int{size, size, size}, []int{1, 3}, 2*size)
	}
}

func TestSparePlaces(t *testing.T) { // P17.1, P17.2: what lies behind a list's length is not asked, and not written on
	room := []int{3, 3, 3, 3, 1, 1, 1, 1}
	if got := part.Cut(room[:4], 8); !slices.Equal(got, []int{2, 4}) {
		t.Errorf("Cut = %v", got)
	}
	ends := []int{2, 4, 5, 6}
	if got := part.Greatest(room[:4], ends[:2]); got != 6 {
		t.Errorf("Greatest = %d", got)
	}
	if !slices.Equal(room, []int{3, 3, 3, 3, 1, 1, 1, 1}) || !slices.Equal(ends, []int{2, 4, 5, 6}) {
		t.Errorf("what lies behind is now %v and %v", room, ends)
	}
}
