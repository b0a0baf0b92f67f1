package tests

import (
	"fmt"
	"math"
	"slices"
	"testing"

	"loop.example/cellarage/impl"
)

// book is entries, each of them written as its level and its date.
func book(levelsAndDates ...int) []impl.Entry {
	var b []impl.Entry
	for pair := range slices.Chunk(levelsAndDates, 2) {
		b = append(b, impl.Entry{Level: pair[0], Date: pair[1]})
	}
	return b
}

// allLevels is a book of all ten levels.
func allLevels() []impl.Entry {
	return book(0, 1, 1, 2, 2, 2, 3, 50, 4, 51, 5, 51, 6, 51, 7, 700, 8, 999, 9, 1000)
}

// recs is things kept of which the level alone counts.
func recs(levels ...int) []impl.Rec {
	var list []impl.Rec
	for i, level := range levels {
		list = append(list, impl.Rec{Level: level, Dump: dump(0, i+1, "1", item(0, dir(i+1)))})
	}
	return list
}

// wantBook asks BookOk for true, and wantNoBook for false, and for what the other functions answer of what is no book.
func wantBook(t *testing.T, what string, b []impl.Entry) {
	t.Helper()
	if !impl.BookOk(b) {
		t.Errorf("%s: BookOk = false of %v", what, b)
	}
}

func wantNoBook(t *testing.T, what string, b []impl.Entry) {
	t.Helper()
	if impl.BookOk(b) {
		t.Errorf("%s: BookOk = true of %v", what, b)
	}
	for level := -2; level <= 12; level++ {
		wantBase(t, what, b, level, 0)
		for _, date := range []int{0, 1, 500, 1000, 1001} {
			wantNotAdded(t, what, b, level, date)
		}
	}
}

func wantBase(t *testing.T, what string, b []impl.Entry, level, want int) {
	t.Helper()
	if got := impl.BookBase(b, level); got != want {
		t.Errorf("%s: BookBase = %d; want %d of %v and level %d", what, got, want, b, level)
	}
}

// wantAdded asks BookAdd for a book, and wantNotAdded for none and false.
func wantAdded(t *testing.T, what string, b []impl.Entry, level, date int, want []impl.Entry) {
	t.Helper()
	got, ok := impl.BookAdd(b, level, date)
	if !ok || !slices.Equal(got, want) {
		t.Errorf("%s: BookAdd = %v, %v; want %v of %v, level %d and date %d", what, got, ok, want, b, level, date)
	}
	wantBook(t, what, got)
}

func wantNotAdded(t *testing.T, what string, b []impl.Entry, level, date int) {
	t.Helper()
	if got, ok := impl.BookAdd(b, level, date); ok || len(got) != 0 {
		t.Errorf("%s: BookAdd = %v, %v; want none of %v, level %d and date %d", what, got, ok, b, level, date)
	}
}

func wantChain(t *testing.T, what string, list []impl.Rec, want ...int) {
	t.Helper()
	if got := impl.BookChain(list); !slices.Equal(got, want) {
		t.Errorf("%s: BookChain = %v; want %v of levels %v", what, got, want, levelsOf(list))
	}
}

// wantBookBack asks BookBack for a code and a tree, every place of it.
func wantBookBack(t *testing.T, what string, list []impl.Rec, code int, want impl.Tree) {
	t.Helper()
	got, gotCode := impl.BookBack(list)
	if gotCode != code || listed(got) != listed(want) {
		t.Errorf("%s: BookBack ends with %d, and is\n%swant %d, and\n%sof\n%s", what, gotCode, listed(got), code, listed(want), listedRecs(list))
	}
}

func levelsOf(list []impl.Rec) []int {
	var levels []int
	for _, r := range list {
		levels = append(levels, r.Level)
	}
	return levels
}

func dumpsOf(list []impl.Rec) []impl.Dump {
	var all []impl.Dump
	for _, r := range list {
		all = append(all, r.Dump)
	}
	return all
}

func listedRecs(list []impl.Rec) string {
	return fmt.Sprint("levels ", levelsOf(list), "\n", listedDumps(dumpsOf(list)))
}

// shelf is a tree that is turned and kept, level by level: all that was kept, its book, and the tree of each time.
type shelf struct {
	x     impl.Tree
	list  []impl.Rec
	book  []impl.Entry
	trees []impl.Tree
}

// keep keeps the tree at a level since BookBase of it.
func (s *shelf) keep(t *testing.T, level int) {
	t.Helper()
	d := keptOf(t, s.x, impl.BookBase(s.book, level))
	b, ok := impl.BookAdd(s.book, level, s.x.Now)
	if !ok {
		t.Fatalf("BookAdd = false of %v, level %d and date %d", s.book, level, s.x.Now)
	}
	s.book, s.list, s.trees = b, append(s.list, impl.Rec{Level: level, Dump: d}), append(s.trees, s.x)
}

// wantEachBack asks that each beginning of what was kept brings back the tree of its own time.
func (s *shelf) wantEachBack(t *testing.T, what string) {
	t.Helper()
	for i, x := range s.trees {
		wantBookBack(t, fmt.Sprint(what, ", the first ", i+1), s.list[:i+1], impl.BackFine, x)
	}
}

func TestBookBounds(t *testing.T) {
	if got, want := [2]int{impl.LevelMost, impl.BookMost}, [2]int{9, 20}; got != want {
		t.Errorf("bounds are %v; want %v", got, want)
	}
}

func TestBookOk(t *testing.T) {
	wantBook(t, "none", nil)
	wantBook(t, "an empty one", []impl.Entry{})
	wantBook(t, "all ten levels", allLevels())
	for what, b := range map[string][]impl.Entry{
		"one":                          book(4, 40),
		"the least level":              book(0, 40),
		"the greatest level":           book(9, 40),
		"the first turn":               book(4, 1),
		"the last turn":                book(4, 1000),
		"all least":                    book(0, 1),
		"all greatest":                 book(9, 1000),
		"two":                          book(4, 40, 5, 41),
		"two far apart":                book(0, 1, 9, 1000),
		"two dates that are the same":  book(4, 40, 5, 40),
		"many dates that are the same": book(0, 1000, 3, 1000, 4, 1000, 9, 1000),
		"all levels at the first turn": book(0, 1, 1, 1, 2, 1, 3, 1, 4, 1, 5, 1, 6, 1, 7, 1, 8, 1, 9, 1),
	} {
		wantBook(t, what, b)
	}
}

func TestBookNotOk(t *testing.T) {
	for what, b := range map[string][]impl.Entry{
		"a level below 0":                        book(-1, 40),
		"a level far below 0":                    book(math.MinInt, 40),
		"a level above LevelMost":                book(10, 40),
		"a level far above LevelMost":            book(math.MaxInt, 40),
		"a date of 0":                            book(4, 0),
		"a date below 0":                         book(4, -1),
		"a date far below 0":                     book(4, math.MinInt),
		"a date above TimeMost":                  book(4, 1001),
		"a date far above TimeMost":              book(4, math.MaxInt),
		"nothing in it":                          book(0, 0),
		"a first level below 0":                  book(-1, 40, 5, 41),
		"a last level above LevelMost":           book(4, 40, 10, 41),
		"a level below 0 between others":         book(0, 1, -1, 2, 3, 3),
		"a level above LevelMost between others": book(0, 1, 10, 2, 3, 3),
		"a first date of 0":                      book(4, 0, 5, 41),
		"a last date above TimeMost":             book(4, 40, 5, 1001),
		"a level that comes twice":               book(4, 40, 4, 41),
		"level 0 twice":                          book(0, 40, 0, 41),
		"the greatest level twice":               book(9, 40, 9, 41),
		"an entry twice":                         book(4, 40, 4, 40),
		"a level twice, not side by side":        book(4, 40, 5, 41, 4, 42),
		"a level twice at the end":               book(0, 1, 4, 40, 4, 41),
		"a level that descends":                  book(5, 40, 4, 41),
		"levels that descend at the end":         book(0, 1, 5, 40, 4, 41),
		"levels that descend between others":     book(0, 1, 5, 40, 4, 41, 9, 42),
		"a date that descends":                   book(4, 41, 5, 40),
		"a date that descends at the end":        book(0, 1, 4, 41, 5, 40),
		"a date that descends between others":    book(0, 1, 4, 41, 5, 40, 9, 42),
		"a date that descends to the first turn": book(0, 2, 1, 1),
		"both descend":                           book(5, 41, 4, 40),
		"one level more than all":                append(allLevels(), impl.Entry{Level: 10, Date: 1000}),
		"all levels, and one once more":          append(allLevels(), impl.Entry{Level: 9, Date: 1000}),
		"very many":                              slices.Repeat(book(4, 40), 100000),
	} {
		wantNoBook(t, what, b)
	}
	for i := range allLevels() {
		for _, e := range []impl.Entry{{Level: i, Date: 0}, {Level: i, Date: 1001}, {Level: -1, Date: 50}, {Level: 10, Date: 50}, {}} {
			b := allLevels()
			b[i] = e
			wantNoBook(t, fmt.Sprint("entry ", i), b)
		}
	}
}

func TestBookBase(t *testing.T) {
	for level := -3; level <= 12; level++ {
		wantBase(t, "none", nil, level, 0)
		wantBase(t, "an empty one", []impl.Entry{}, level, 0)
		want := 0
		if level > 0 {
			want = allLevels()[min(level, 10)-1].Date
		}
		wantBase(t, "all levels", allLevels(), level, want)
	}
	b := book(2, 20, 4, 40, 7, 70)
	for level, want := range map[int]int{
		math.MinInt: 0, math.MinInt + 1: 0, -1: 0, 0: 0, 1: 0, 2: 0, 3: 20, 4: 20, 5: 40, 6: 40, 7: 40, 8: 70, 9: 70, 10: 70, 11: 70, 64: 70, math.MaxInt: 70,
	} {
		wantBase(t, "three", b, level, want)
	}
	for level, want := range map[int]int{math.MinInt: 0, -1: 0, 0: 0, 1: 5, 9: 5, 10: 5, math.MaxInt: 5} {
		wantBase(t, "level 0 alone", book(0, 5), level, want)
	}
	for level, want := range map[int]int{math.MinInt: 0, 0: 0, 8: 0, 9: 0, 10: 1000, math.MaxInt: 1000} {
		wantBase(t, "the greatest level alone", book(9, 1000), level, want)
	}
	for level, want := range map[int]int{0: 0, 1: 7, 2: 7, 3: 7, 4: 7, 5: 8} {
		wantBase(t, "dates that are the same", book(0, 7, 3, 7, 4, 8), level, want)
	}
}

func TestBookAdd(t *testing.T) {
	b := book(2, 20, 4, 40, 7, 70)
	for _, c := range []struct {
		what        string
		b           []impl.Entry
		level, date int
		want        []impl.Entry
	}{
		{"to none", nil, 3, 30, book(3, 30)},
		{"to an empty one", []impl.Entry{}, 3, 30, book(3, 30)},
		{"all least to none", nil, 0, 1, book(0, 1)},
		{"all greatest to none", nil, 9, 1000, book(9, 1000)},
		{"above all", b, 8, 71, book(2, 20, 4, 40, 7, 70, 8, 71)},
		{"the greatest level", b, 9, 1000, book(2, 20, 4, 40, 7, 70, 9, 1000)},
		{"the last one again", b, 7, 71, book(2, 20, 4, 40, 7, 71)},
		{"ahead of the last one", b, 6, 71, book(2, 20, 4, 40, 6, 71)},
		{"behind one that is there", b, 5, 71, book(2, 20, 4, 40, 5, 71)},
		{"one that is there", b, 4, 71, book(2, 20, 4, 71)},
		{"between two", b, 3, 71, book(2, 20, 3, 71)},
		{"the first one again", b, 2, 71, book(2, 71)},
		{"below all", b, 1, 71, book(1, 71)},
		{"the least level", b, 0, 71, book(0, 71)},
		{"at the date of the last entry, above all", b, 9, 70, book(2, 20, 4, 40, 7, 70, 9, 70)},
		{"at the date of the last entry, there", b, 7, 70, b},
		{"at the date of the last entry, between two", b, 3, 70, book(2, 20, 3, 70)},
		{"at the date of the last entry, below all", b, 0, 70, book(0, 70)},
		{"at the last turn", b, 4, 1000, book(2, 20, 4, 1000)},
		{"the first turn twice", book(0, 1), 5, 1, book(0, 1, 5, 1)},
		{"level 0 twice", book(0, 1), 0, 1, book(0, 1)},
		{"level 0 again", book(0, 1), 0, 9, book(0, 9)},
		{"the greatest level again", book(9, 1), 9, 9, book(9, 9)},
		{"level 0 behind all", allLevels(), 0, 1000, book(0, 1000)},
		{"the last of all again", allLevels(), 9, 1000, allLevels()},
		{"the last but one of all again", allLevels(), 8, 1000, append(allLevels()[:8], book(8, 1000)...)},
	} {
		wantAdded(t, c.what, c.b, c.level, c.date, c.want)
	}
	for level := range 10 {
		wantAdded(t, "of all", allLevels(), level, 1000, append(allLevels()[:level], book(level, 1000)...))
	}
}

func TestBookAddRefused(t *testing.T) {
	for what, b := range map[string][]impl.Entry{"none": nil, "an empty one": {}, "one": book(4, 40), "three": book(2, 20, 4, 40, 7, 70), "the first turn": book(0, 1)} {
		for _, level := range []int{math.MinInt, -10, -1, 10, 11, 64, math.MaxInt} {
			for _, date := range []int{0, 1, 80, 1000, 1001} {
				wantNotAdded(t, what, b, level, date)
			}
		}
		for level := range 10 {
			for _, date := range []int{math.MinInt, -1, 0, 1001, 1002, math.MaxInt} {
				wantNotAdded(t, what, b, level, date)
			}
		}
	}
	// It is the last entry that counts, also if it would not stay.
	for level := range 10 {
		for _, date := range []int{1, 19, 20, 21, 40, 41, 69} {
			wantNotAdded(t, "a date below that of the last entry", book(2, 20, 4, 40, 7, 70), level, date)
		}
		wantNotAdded(t, "one date below the last", allLevels(), level, 999)
		wantNotAdded(t, "a date below that of one", book(0, 2), level, 1)
	}
}

// A lesser level behind greater ones takes them out of the book: what is kept behind it is kept since it.
func TestBookAddOneBehindTheOther(t *testing.T) {
	var b []impl.Entry
	for i, c := range []struct {
		level int
		want  []impl.Entry
	}{
		{5, book(5, 1)}, {9, book(5, 1, 9, 2)}, {7, book(5, 1, 7, 3)}, {8, book(5, 1, 7, 3, 8, 4)}, {7, book(5, 1, 7, 5)}, {0, book(0, 6)}, {1, book(0, 6, 1, 7)}, {3, book(0, 6, 1, 7, 3, 8)}, {2, book(0, 6, 1, 7, 2, 9)}, {2, book(0, 6, 1, 7, 2, 10)}, {0, book(0, 11)}, {0, book(0, 12)},
	} {
		wantAdded(t, fmt.Sprint("step ", i), b, c.level, i+1, c.want)
		b, _ = impl.BookAdd(b, c.level, i+1)
	}
}

func TestBookChain(t *testing.T) {
	wantChain(t, "none", nil)
	wantChain(t, "an empty list", []impl.Rec{})
	for level := range 10 {
		wantChain(t, "one", recs(level), 0)
		wantChain(t, "a level twice", recs(level, level), 1)
		wantChain(t, "a level three times", recs(level, level, level), 2)
	}
	for _, c := range []struct {
		what   string
		levels []int
		want   []int
	}{
		{"ascending", []int{0, 1, 2}, []int{0, 1, 2}},
		{"all levels", []int{0, 1, 2, 3, 4, 5, 6, 7, 8, 9}, []int{0, 1, 2, 3, 4, 5, 6, 7, 8, 9}},
		{"all levels, descending", []int{9, 8, 7, 6, 5, 4, 3, 2, 1, 0}, []int{9}},
		{"a lesser one behind a greater one", []int{3, 1}, []int{1}},
		{"a lesser one behind a greater one, with one ahead of both", []int{0, 3, 1}, []int{0, 2}},
		{"a lesser one behind greater ones", []int{0, 2, 3, 5, 1}, []int{0, 4}},
		{"a greater one between", []int{0, 5, 2, 7}, []int{0, 2, 3}},
		{"two lesser ones behind greater ones", []int{0, 3, 2, 5, 4}, []int{0, 2, 4}},
		{"a level twice, with another between", []int{0, 2, 1, 2}, []int{0, 2, 3}},
		{"a level twice, with a greater one between", []int{0, 2, 5, 2}, []int{0, 3}},
		{"a level twice ahead of a greater one", []int{0, 2, 2, 5}, []int{0, 2, 3}},
		{"level 0 twice ahead", []int{0, 0, 1}, []int{1, 2}},
		{"level 0 again behind others", []int{0, 1, 2, 0, 3}, []int{3, 4}},
		{"level 0 at the end", []int{0, 1, 2, 0}, []int{3}},
		{"no level 0", []int{4, 6, 5}, []int{0, 2}},
		{"the greatest level again and again", []int{0, 9, 9, 9}, []int{0, 3}},
		{"lesser ones again and again", []int{9, 0, 8, 1, 7, 2, 6, 3, 5, 4}, []int{1, 3, 5, 7, 9}},
	} {
		wantChain(t, c.what, recs(c.levels...), c.want...)
	}
}

// What has no level is none of those that are needed, and does not count as lesser than others.
func TestBookChainOfNoLevel(t *testing.T) {
	for _, none := range []int{-1, -2, 10, 11, 64, math.MinInt, math.MaxInt} {
		wantChain(t, "alone", recs(none))
		wantChain(t, "twice", recs(none, none))
		wantChain(t, "at the end", recs(0, 2, none), 0, 1)
		wantChain(t, "twice at the end", recs(0, 2, none, none), 0, 1)
		wantChain(t, "at the beginning", recs(none, 0, 2), 1, 2)
		wantChain(t, "between others", recs(0, none, 2), 0, 2)
		wantChain(t, "between each two", recs(none, 0, none, 3, none, 2, none), 1, 5)
		wantChain(t, "ahead of one", recs(none, 9), 1)
		wantChain(t, "behind one", recs(9, none), 0)
		wantChain(t, "behind level 0", recs(0, none), 0)
		wantChain(t, "among very many", recs(slices.Repeat([]int{none}, 20)...))
	}
	wantChain(t, "below 0 and above LevelMost", recs(10, -1, 10, -1))
	wantChain(t, "below 0 and above LevelMost around one", recs(10, -1, 4, 10, -1), 2)
}

func TestBookChainBounds(t *testing.T) {
	for _, c := range []struct {
		what   string
		levels []int
	}{
		{"a level again and again", slices.Repeat([]int{3}, 20)}, {"level 0 again and again", slices.Repeat([]int{0}, 20)}, {"two levels", slices.Repeat([]int{0, 3}, 10)}, {"ascending", slices.Repeat([]int{0, 1, 2, 3, 4, 5, 6, 7, 8, 9}, 2)}, {"descending", slices.Repeat([]int{9, 7, 5, 3, 0}, 4)}, {"some of no level", slices.Repeat([]int{0, -1, 1, 10, 2}, 4)},
	} {
		list := recs(c.levels...)
		wantChain(t, c.what, list, modelChain(c.levels)...)
		wantChain(t, c.what+", one less", list[1:], modelChain(c.levels[1:])...)
		if len(list) != 20 || len(modelChain(c.levels)) == 0 {
			t.Errorf("%s: the test's own list has %d, and needs none", c.what, len(list))
		}
		for _, level := range []int{0, 1, 9, -1, 10} {
			wantChain(t, c.what+", one more", append(recs(level), list...))
			wantChain(t, c.what+", one more at the end", append(slices.Clone(list), recs(level)...))
			wantBookBack(t, c.what+", one more", append(recs(level), list...), impl.BackForm, impl.Tree{})
		}
	}
	wantChain(t, "very many", recs(slices.Repeat([]int{0}, 5000)...))
	wantBookBack(t, "very many", recs(slices.Repeat([]int{0}, 5000)...), impl.BackForm, impl.Tree{})
}

// withLevels is things kept, at these levels.
func withLevels(list []impl.Dump, levels ...int) []impl.Rec {
	var all []impl.Rec
	for i, d := range list {
		all = append(all, impl.Rec{Level: levels[i], Dump: d})
	}
	return all
}

func TestBookBackCodes(t *testing.T) {
	trees, list := fiveTurns(t)
	first, later := list[0], keptOf(t, trees[1], 0)
	bad := dump(list[0].Date, list[1].Date, "1111111111")
	for _, c := range []struct {
		what   string
		list   []impl.Dump
		levels []int
		code   int
		want   impl.Tree
	}{
		{"none", nil, nil, impl.BackForm, impl.Tree{}},
		{"one of level 0", list[:1], []int{0}, impl.BackFine, trees[0]},
		{"one of the greatest level", list[:1], []int{9}, impl.BackFine, trees[0]},
		{"one of a level below 0", list[:1], []int{-1}, impl.BackForm, impl.Tree{}},
		{"one of a level above LevelMost", list[:1], []int{10}, impl.BackForm, impl.Tree{}},
		{"one that is not since 0", list[1:2], []int{0}, impl.BackForm, impl.Tree{}},
		{"one of which nothing is known", []impl.Dump{dump(0, 1, "1")}, []int{0}, impl.BackBad, impl.Tree{}},
		{"one that is not ok", []impl.Dump{{}}, []int{0}, impl.BackForm, impl.Tree{}},
		{"all, ascending", list, []int{0, 1, 2, 3, 9}, impl.BackFine, trees[4]},
		{"level 0 twice, the last since 0", []impl.Dump{first, later}, []int{0, 0}, impl.BackFine, trees[1]},
		{"level 0 twice, the last since the first", list[:2], []int{0, 0}, impl.BackForm, impl.Tree{}},
		{"a greater level twice, the last since the first", list[:3], []int{0, 4, 4}, impl.BackOther, impl.Tree{}},
		{"a greater level twice, the last since the one of level 0", []impl.Dump{first, list[1], keptOf(t, trees[2], first.Date)}, []int{0, 4, 4}, impl.BackFine, trees[2]},
		{"a lesser one behind a greater one, since the one of level 0", []impl.Dump{first, list[1], keptOf(t, trees[2], first.Date)}, []int{0, 4, 3}, impl.BackFine, trees[2]},
		{"a lesser one behind a greater one, since that", list[:3], []int{0, 4, 3}, impl.BackOther, impl.Tree{}},
		{"one that is not needed, and is not ok", []impl.Dump{first, {}, list[1]}, []int{0, 4, 3}, impl.BackFine, trees[1]},
		{"one that is not needed, and of another turn", []impl.Dump{first, list[4], list[1]}, []int{0, 4, 3}, impl.BackFine, trees[1]},
		{"one that is not needed ahead of all", []impl.Dump{{}, first, list[1]}, []int{0, 0, 3}, impl.BackFine, trees[1]},
		{"ones of no level that are not ok", []impl.Dump{{}, first, {}, list[1], {}}, []int{-1, 0, 10, 3, -1}, impl.BackFine, trees[1]},
		{"ones of no level that would go on", list[:3], []int{0, 1, 10}, impl.BackFine, trees[1]},
		{"one of no level that is needed", list[:3], []int{0, -1, 2}, impl.BackOther, impl.Tree{}},
		{"one of no level that all is since", list[:2], []int{-1, 2}, impl.BackForm, impl.Tree{}},
		{"a needed one that is not ok", []impl.Dump{first, {}, list[2]}, []int{0, 1, 2}, impl.BackForm, impl.Tree{}},
		{"a needed one of another turn", []impl.Dump{first, list[2], {}}, []int{0, 1, 2}, impl.BackOther, impl.Tree{}},
		{"a needed one of which nothing is known", []impl.Dump{first, bad, {}}, []int{0, 1, 2}, impl.BackBad, impl.Tree{}},
		{"the last one is not ok", []impl.Dump{first, list[1], {}}, []int{0, 1, 2}, impl.BackForm, impl.Tree{}},
		{"the last one is of another turn", []impl.Dump{first, list[2]}, []int{0, 1}, impl.BackOther, impl.Tree{}},
		{"the last one, nothing is known", []impl.Dump{first, bad}, []int{0, 1}, impl.BackBad, impl.Tree{}},
		{"twenty", slices.Repeat(list[:1], 20), slices.Repeat([]int{0}, 20), impl.BackFine, trees[0]},
		{"one more", slices.Repeat(list[:1], 21), slices.Repeat([]int{0}, 21), impl.BackForm, impl.Tree{}},
	} {
		wantBookBack(t, c.what, withLevels(c.list, c.levels...), c.code, c.want)
		var hollowed []impl.Dump
		for _, d := range c.list {
			hollowed = append(hollowed, hollowDump(d))
		}
		wantBookBack(t, c.what+", hollow", withLevels(hollowed, c.levels...), c.code, c.want)
	}
}

// The example of the document's last chapter, by its levels alone.
func TestBookOfTheExample(t *testing.T) {
	var s shelf
	s.x = impl.TreeNew(1)
	do := func(level int, since int, deeds ...deed) {
		all := turns(t, s.x, deeds...)
		s.x = all[len(all)-1]
		s.keep(t, level)
		if last := s.list[len(s.list)-1].Dump; last.Since != since {
			t.Errorf("level %d is kept since %d; want %d", level, last.Since, since)
		}
	}
	do(0, 0, newDir("/a"), newFile("/a/b"), putText("/a/b", "hello"))
	do(2, 4, link("/a/b", "/c"))
	do(1, 4, move("/a", "/home"), newFile("/home/new"))
	wantChain(t, "the example", s.list, 0, 2)
	s.wantEachBack(t, "the example")
	if want := "4 7 1111\n0 6 dir c=2 home=1\n1 7 dir b=2 new=3\n2 5 'hello'\n3 7 ''\n"; impl.DumpText(s.list[2].Dump) != want {
		t.Errorf("the last one kept is\n%swant\n%s", impl.DumpText(s.list[2].Dump), want)
	}
}

// memoryBooks is books of each size, and some that are none.
func memoryBooks() [][]impl.Entry {
	return [][]impl.Entry{nil, book(0, 1), book(9, 1000), book(2, 20, 4, 40, 7, 70), allLevels(), book(4, 40, 4, 41), book(10, 1), book(5, 41, 6, 40)}
}

// roomyBook is a book with spare room behind its end, and all of it, the room too.
func roomyBook(b []impl.Entry) (own []impl.Entry, all []impl.Entry) {
	all = append(slices.Clone(b), book(8, 800, 9, 900)...)
	return all[:len(b)], all
}

func TestBookAddIsNewMemory(t *testing.T) {
	for _, given := range memoryBooks() {
		for _, e := range book(0, 1000, 1, 1000, 3, 1000, 4, 1000, 7, 1000, 9, 1000, 10, 1000, 4, 3) {
			b, all := roomyBook(given)
			was := slices.Clone(all)
			got, _ := impl.BookAdd(b, e.Level, e.Date)
			wantApart(t, []span{spanOf("the answer", got)}, []span{spanOf("the book", b)})
			for _, room := range got[len(got):cap(got)] {
				if room != (impl.Entry{}) {
					t.Errorf("the spare room has %v", room)
				}
			}
			want := slices.Clone(got)
			other, _ := impl.BookAdd(b, e.Level, e.Date)
			for i := range got[:cap(got)] {
				got[:cap(got)][i] = impl.Entry{Level: 77, Date: 78}
			}
			again, _ := impl.BookAdd(b, e.Level, e.Date)
			if !slices.Equal(all, was) || !slices.Equal(other, want) || !slices.Equal(again, want) {
				t.Errorf("BookAdd of %v answered %v, %v and %v, and left %v of %v", e, want, other, again, all, was)
			}
		}
	}
}

func TestBookWritesIntoNoBook(t *testing.T) {
	for _, given := range memoryBooks() {
		b, all := roomyBook(given)
		was := slices.Clone(all)
		impl.BookOk(b)
		for level := -1; level <= 10; level++ {
			impl.BookBase(b, level)
			for _, date := range []int{0, 1, 20, 41, 70, 1000, 1001} {
				impl.BookAdd(b, level, date)
				if !slices.Equal(all, was) {
					t.Fatalf("a book was written into: %v was %v", all, was)
				}
			}
		}
	}
}

// memoryRecs is all that was kept, with each code as its end.
func memoryRecs(t *testing.T) [][]impl.Rec {
	t.Helper()
	var all [][]impl.Rec
	for _, list := range memoryLists(t) {
		for _, levels := range [][]int{{0, 1, 2, 3, 4, 9}, {0, 2, 1, 5, 4, 7}, {0, 0, 0, 0, 0, 0}, {0, -1, 10, 3, 2, -1}, {10, 10, 10, 10, 10, 10}, {5, 4, 3, 2, 1, 0}} {
			all = append(all, withLevels(list, levels...))
		}
	}
	return append(all, withLevels(slices.Repeat([]impl.Dump{keptBase()}, 21), slices.Repeat([]int{0}, 21)...))
}

// roomyRecs is a list with spare room, filled, behind it and behind each list in it; room tells all of it.
func roomyRecs(given []impl.Rec) (own []impl.Rec, room func() string) {
	dumps, roomOfDumps := roomyDumps(dumpsOf(given))
	own = withLevels(dumps, levelsOf(given)...)
	own = append(own, withLevels([]impl.Dump{keptBase(), dump(0, 1, "1")}, 0, 1)...)[:len(own)]
	room = func() string { return listedRecs(own[:cap(own)]) + roomOfDumps() }
	return own, room
}

func TestBookBackAndChainAreNewMemory(t *testing.T) {
	for _, given := range memoryRecs(t) {
		list, room := roomyRecs(given)
		was := room()
		spans := append(dumpsSpans(dumpsOf(list)), spanOf("all that was kept", list))
		chain := impl.BookChain(list)
		x, code := impl.BookBack(list)
		if room() != was {
			t.Fatalf("what was kept was written into:\n%swas\n%s", room(), was)
		}
		wantApart(t, append(treeSpans("the tree's", x), spanOf("the chain", chain)), spans)
		wantEmptyRoom(t, x)
		if slices.ContainsFunc(chain[len(chain):cap(chain)], func(place int) bool { return place != 0 }) {
			t.Errorf("the spare room of the chain is %v", chain[:cap(chain)])
		}
		told, toldChain := listed(x), slices.Clone(chain)
		overwrite(x)
		for i := range chain[:cap(chain)] {
			chain[:cap(chain)][i] = 99
		}
		if room() != was {
			t.Fatalf("an answer shares memory with what was kept:\n%swas\n%s", room(), was)
		}
		again, codeAgain := impl.BookBack(list)
		if listed(again) != told || codeAgain != code || !slices.Equal(impl.BookChain(list), toldChain) {
			t.Errorf("two answers are %d, %v\n%sand %d\n%s", code, toldChain, told, codeAgain, listed(again))
		}
	}
}

// What is written into one place of a tree that was brought back shows in no other one.
func TestBookBackPartsAreApart(t *testing.T) {
	for _, list := range memoryRecs(t) {
		want, _ := impl.BookBack(list)
		for ino := range want.Nodes {
			got, _ := impl.BookBack(list)
			overwrite(tree(1, got.Nodes[ino]))
			got.Nodes[ino].Names, got.Nodes[ino].Kids = append(got.Nodes[ino].Names, "bent"), append(got.Nodes[ino].Kids, 99)
			got.Nodes[ino] = want.Nodes[ino]
			if listed(got) != listed(want) {
				t.Errorf("once place %d was written into, it is\n%swant\n%s", ino, listed(got), listed(want))
			}
		}
	}
}

// No call leaves anything for the next one.
func TestBookKeepsNothing(t *testing.T) {
	told := func(b []impl.Entry, list []impl.Rec) string {
		said := fmt.Sprint(impl.BookOk(b), impl.BookChain(list))
		for level := -1; level <= 10; level++ {
			added, ok := impl.BookAdd(b, level, 1000)
			said += fmt.Sprint(impl.BookBase(b, level), added, ok)
		}
		x, code := impl.BookBack(list)
		return said + fmt.Sprint(listed(x), code)
	}
	books, lists := memoryBooks(), memoryRecs(t)
	for i, list := range lists {
		b := books[i%len(books)]
		first := told(b, list)
		for j, other := range books {
			told(other, lists[(i+j)%len(lists)])
		}
		if second := told(b, list); first != second {
			t.Errorf("two answers are\n%s\n%s", first, second)
		}
	}
}
