package tests

import (
	"fmt"
	"slices"
	"testing"

	"loop.example/cellarage/impl"
)

// modelBookOk holds each two entries against each other.
func modelBookOk(b []impl.Entry) bool {
	for i, e := range b {
		if e.Level < 0 || e.Level > 9 || e.Date < 1 || e.Date > 1000 {
			return false
		}
		for _, behind := range b[i+1:] {
			if behind.Level <= e.Level || behind.Date < e.Date {
				return false
			}
		}
	}
	return true
}

// modelBookBase and modelBookAdd go by the entries of lesser levels, wherever they stand.
func modelBookBase(b []impl.Entry, level int) int {
	if lesser := modelLesser(b, level); modelBookOk(b) && len(lesser) > 0 {
		return lesser[len(lesser)-1].Date
	}
	return 0
}

func modelBookAdd(b []impl.Entry, level, date int) ([]impl.Entry, bool) {
	one := impl.Entry{Level: level, Date: date}
	added := append(modelLesser(b, level), one)
	latest := slices.ContainsFunc(b, func(e impl.Entry) bool { return e.Date > date })
	if !modelBookOk(b) || !modelBookOk([]impl.Entry{one}) || latest {
		return nil, false
	}
	return added, true
}

func modelLesser(b []impl.Entry, level int) []impl.Entry {
	return slices.DeleteFunc(slices.Clone(b), func(e impl.Entry) bool { return e.Level >= level })
}

// modelChain asks of each place whether any behind it has a level that is not greater.
func modelChain(levels []int) []int {
	isLevel := func(level int) bool { return level >= 0 && level <= 9 }
	if len(levels) > 20 {
		return nil
	}
	var chain []int
	for place, level := range levels {
		covered := slices.ContainsFunc(levels[place+1:], func(behind int) bool { return isLevel(behind) && behind <= level })
		if isLevel(level) && !covered {
			chain = append(chain, place)
		}
	}
	return chain
}

// wantBookAsModel asks of a book whether it is ok, and BookBase and BookAdd of all edges.
func wantBookAsModel(t *testing.T, b []impl.Entry, added []impl.Entry) (ok bool) {
	t.Helper()
	ok = modelBookOk(b)
	if impl.BookOk(b) != ok {
		t.Fatalf("BookOk = %v; want %v of %v", !ok, ok, b)
	}
	for level := -2; level <= 11; level++ {
		if got, want := impl.BookBase(b, level), modelBookBase(b, level); got != want {
			t.Fatalf("BookBase = %d; want %d of %v and level %d", got, want, b, level)
		}
	}
	for _, e := range added {
		got, gotOk := impl.BookAdd(b, e.Level, e.Date)
		want, wantOk := modelBookAdd(b, e.Level, e.Date)
		if gotOk != wantOk || !slices.Equal(got, want) {
			t.Fatalf("BookAdd = %v, %v; want %v, %v of %v and %v", got, gotOk, want, wantOk, b, e)
		}
	}
	return ok
}

func TestBookEverySmallOne(t *testing.T) {
	var all []impl.Entry
	for _, level := range []int{-1, 0, 1, 4, 9, 10} {
		for _, date := range []int{0, 1, 2, 999, 1000, 1001} {
			all = append(all, impl.Entry{Level: level, Date: date})
		}
	}
	ok, not := 0, 0
	ask := func(b ...impl.Entry) {
		if wantBookAsModel(t, b, all) {
			ok++
		} else {
			not++
		}
	}
	ask()
	for _, first := range all {
		ask(first)
		for _, second := range all {
			ask(first, second)
			for _, third := range all {
				ask(first, second, third)
			}
		}
	}
	if ok < 100 || not < 10000 {
		t.Errorf("%d are ok, and %d are not", ok, not)
	}
}

// Books as they come about: any levels at any turns, one behind the other, some of them refused.
func TestBookAddManyTimes(t *testing.T) {
	r := draw(700)
	sizes := map[int]int{}
	for range 500 {
		var b []impl.Entry
		date := 1 + r.below(500)
		for range 40 {
			e := impl.Entry{Level: r.below(12) - 1, Date: max(0, date-1+r.below(6))}
			if !wantBookAsModel(t, b, []impl.Entry{e, {Level: 0, Date: date}, {Level: 9, Date: date - 1}}) {
				t.Fatalf("%v is no book", b)
			}
			if added, ok := impl.BookAdd(b, e.Level, e.Date); ok {
				b, date = added, e.Date
			}
			sizes[len(b)]++
		}
	}
	for size := range 6 {
		if sizes[size] < 50 {
			t.Errorf("a book had %d entries only %d times of %v", size, sizes[size], sizes)
		}
	}
}

// eachLevels tells each list of so many of these levels.
func eachLevels(size int, from []int, f func(levels []int)) {
	if size == 0 {
		f(nil)
		return
	}
	eachLevels(size-1, from, func(levels []int) {
		for _, level := range from {
			f(append(slices.Clone(levels), level))
		}
	})
}

func TestBookChainOfEveryShortList(t *testing.T) {
	for size := range 7 {
		eachLevels(size, []int{-1, 0, 1, 2, 9, 10}, func(levels []int) {
			if got, want := impl.BookChain(recs(levels...)), modelChain(levels); !slices.Equal(got, want) {
				t.Fatalf("BookChain = %v; want %v of levels %v", got, want, levels)
			}
		})
	}
}

func TestBookChainOfLongLists(t *testing.T) {
	r := draw(701)
	needed := map[int]int{}
	for range 20000 {
		var levels []int
		for range 15 + r.below(8) {
			levels = append(levels, r.below(14)-2)
		}
		got, want := impl.BookChain(recs(levels...)), modelChain(levels)
		if !slices.Equal(got, want) {
			t.Fatalf("BookChain = %v; want %v of levels %v", got, want, levels)
		}
		needed[len(got)]++
	}
	for size := range 6 {
		if needed[size] < 100 {
			t.Errorf("%d were needed only %d times of %v", size, needed[size], needed)
		}
	}
}

// wantBackAsChain asks that BookBack is BackAll of just those that the model's chain tells.
func wantBackAsChain(t *testing.T, list []impl.Rec) (code int) {
	t.Helper()
	var needed []impl.Dump
	for _, place := range modelChain(levelsOf(list)) {
		needed = append(needed, list[place].Dump)
	}
	want, wantCode := modelBackAll(needed)
	got, code := impl.BookBack(list)
	if code != wantCode || !impl.TreeSame(got, want) {
		t.Fatalf("BookBack ends with %d, and is\n%swant %d, and\n%sof\n%s", code, listed(got), wantCode, listed(want), listedRecs(list))
	}
	all, allCode := impl.BackAll(needed)
	if code != allCode || !impl.TreeSame(got, all) {
		t.Fatalf("BookBack ends with %d, and is\n%sBackAll ends with %d, and is\n%sof\n%s", code, listed(got), allCode, listed(all), listedRecs(list))
	}
	return code
}

// Things kept that do not belong together, at any levels: each code is told, as of those that are needed.
func TestBookBackOfAnything(t *testing.T) {
	trees, _ := fiveTurns(t)
	from := []impl.Dump{{}, dump(0, 1, "1"), dump(trees[0].Now, trees[1].Now, "1111111111"), dump(1, 1, "1")}
	for i, x := range trees {
		from = append(from, keptOf(t, x, 0))
		for _, y := range trees[i:] {
			from = append(from, keptOf(t, y, x.Now))
		}
	}
	r := draw(702)
	ended := map[int]int{}
	for range 30000 {
		var list []impl.Rec
		for range r.below(6) {
			list = append(list, impl.Rec{Level: r.below(7) - 1, Dump: from[r.below(len(from))]})
		}
		ended[wantBackAsChain(t, list)]++
	}
	for code := range 4 {
		if ended[code] < 300 {
			t.Errorf("code %d was told only %d times of %v", code, ended[code], ended)
		}
	}
}

// turn does some deeds to the tree, those that can be done.
func (s *shelf) turn(r *draw, deeds int) {
	for range deeds {
		if next, code := r.deed(s.x).do(s.x); code == impl.MakeFine {
			s.x = next
		}
	}
}

// wantLastBack asks promise 7 of all that was kept, and that its last one was kept since the last lesser one.
func (s *shelf) wantLastBack(t *testing.T) {
	t.Helper()
	last := len(s.list) - 1
	since := 0
	for _, r := range s.list[:last] {
		if r.Level < s.list[last].Level {
			since = r.Dump.Date
		}
	}
	if got := s.list[last].Dump.Since; got != since {
		t.Fatalf("level %d is kept since %d; want %d of\n%s", s.list[last].Level, got, since, listedRecs(s.list))
	}
	if got, code := impl.BookBack(s.list); code != impl.BackFine || !impl.TreeSame(got, s.x) {
		t.Fatalf("BookBack ends with %d, and is\n%swant\n%sof\n%s", code, listed(got), listed(s.x), listedRecs(s.list))
	}
}

// Every order of a few levels: each time the tree is turned and kept, and brought back.
func TestBookBackEveryOrderOfLevels(t *testing.T) {
	r := draw(703)
	for size := 1; size <= 6; size++ {
		eachLevels(size, []int{0, 1, 5, 9}, func(levels []int) {
			s := shelf{x: impl.TreeNew(1)}
			s.turn(&r, 10)
			for _, level := range levels {
				s.turn(&r, r.below(4))
				s.keep(t, level)
				s.wantLastBack(t)
			}
		})
	}
}

// Each story is kept at each time, in many orders of levels.
func TestBookBackStories(t *testing.T) {
	r := draw(704)
	for _, told := range stories() {
		all := turns(t, storyBase(t), told.deeds...)
		for range 40 {
			var s shelf
			for _, x := range all {
				s.x = x
				for range r.below(3) {
					s.keep(t, r.below(10))
				}
			}
			s.keep(t, r.below(10))
			s.wantEachBack(t, told.what)
		}
	}
}

// Twenty are kept, at any of ten levels, from any turn on up to TimeMost; those of no level between them do not count.
func TestBookBackTwenty(t *testing.T) {
	r := draw(705)
	seen := map[string]int{}
	for i := range 1500 {
		s := shelf{x: impl.TreeNew(1 + r.below(1000))}
		if i%10 == 0 {
			s.x = impl.TreeNew(990 + r.below(11))
		}
		for len(s.list) < 20 {
			s.turn(&r, r.below(6))
			s.keep(t, r.below(10))
			s.wantLastBack(t)
			countLevels(s.list, seen)
		}
		if s.x.Now == 1000 {
			seen["the last turn"]++
		}
		wantNoneCounts(t, &s, &r)
		s.list = append(s.list, s.list[19])
		wantBookBack(t, "one more than twenty", s.list, impl.BackForm, impl.Tree{})
	}
	for _, what := range []string{"a level twice", "level 0 twice", "a lesser one behind a greater one", "of one turn", "five needed", "the last turn"} {
		if seen[what] < 40 {
			t.Errorf("%s was seen only %d times", what, seen[what])
		}
	}
}

// countLevels counts what is easily brought back wrongly by the last one kept.
func countLevels(list []impl.Rec, seen map[string]int) {
	last := len(list) - 1
	if len(modelChain(levelsOf(list))) >= 5 {
		seen["five needed"]++
	}
	if last == 0 {
		return
	}
	is, was := list[last], list[last-1]
	if was.Level > is.Level && is.Level > 0 {
		seen["a lesser one behind a greater one"]++
	}
	if was.Level == is.Level {
		seen["a level twice"]++
		if is.Level == 0 {
			seen["level 0 twice"]++
		}
	}
	if was.Dump.Date == is.Dump.Date {
		seen["of one turn"]++
	}
}

// wantNoneCounts takes some of the first ones kept, and puts others of no level between them.
func wantNoneCounts(t *testing.T, s *shelf, r *draw) {
	t.Helper()
	size := 1 + r.below(10)
	var list []impl.Rec
	for _, kept := range s.list[:size] {
		for range r.below(2) {
			list = append(list, impl.Rec{Level: []int{-1, 10}[r.below(2)], Dump: s.list[r.below(20)].Dump})
		}
		list = append(list, kept)
	}
	wantBookBack(t, fmt.Sprint("the first ", size, " and others"), list, impl.BackFine, s.trees[size-1])
	list = append(list, impl.Rec{Level: -1, Dump: s.list[19].Dump})
	if len(list) <= 20 {
		wantBookBack(t, fmt.Sprint("the first ", size, " and one of no level behind"), list, impl.BackFine, s.trees[size-1])
	}
}
