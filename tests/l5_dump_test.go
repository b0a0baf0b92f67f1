package tests

import (
	"fmt"
	"math"
	"slices"
	"strings"
	"testing"

	"loop.example/cellarage/impl"
)

// dump and item are what is kept; live is a 1 or a 0 for each place.
func dump(since, date int, live string, items ...impl.Item) impl.Dump {
	d := impl.Dump{Since: since, Date: date, Items: items}
	for _, sign := range live {
		d.Live = append(d.Live, sign == '1')
	}
	return d
}

func item(ino int, n impl.Node) impl.Item { return impl.Item{Ino: ino, Node: n} }

// cloneDump shares nothing with what it was made of.
func cloneDump(d impl.Dump) impl.Dump {
	d.Live, d.Items = slices.Clone(d.Live), slices.Clone(d.Items)
	for i := range d.Items {
		d.Items[i].Node = cloneNode(d.Items[i].Node)
	}
	return d
}

// listedDump is a text that tells what is kept apart in every part, and takes nil and empty lists for one value.
func listedDump(d impl.Dump) string {
	var b strings.Builder
	fmt.Fprintf(&b, "since %d, date %d, live %v\n", d.Since, d.Date, d.Live)
	for _, i := range d.Items {
		n := i.Node
		fmt.Fprintf(&b, "%d: kind %d, text %q, names %q, kids %v, at %d\n", i.Ino, n.Kind, n.Text, n.Names, n.Kids, n.At)
	}
	return b.String()
}

// wantDumpOk asks all that hangs on something kept that is ok; lines is its text.
func wantDumpOk(t *testing.T, what string, d impl.Dump, size int, lines ...string) {
	t.Helper()
	if !impl.DumpOk(d) {
		t.Errorf("%s: DumpOk = false of\n%s", what, listedDump(d))
	}
	if got := impl.DumpSize(d); got != size {
		t.Errorf("%s: DumpSize = %d; want %d of\n%s", what, got, size, listedDump(d))
	}
	text := strings.Join(lines, "\n") + "\n"
	if got := impl.DumpText(d); got != text {
		t.Errorf("%s: DumpText is\n%swant\n%s", what, got, text)
	}
	wantDumpRead(t, text, d)
}

// wantDumpRead asks that a text is read as this, to the part.
func wantDumpRead(t *testing.T, text string, want impl.Dump) {
	t.Helper()
	got, ok := impl.DumpRead(text)
	if !ok || listedDump(got) != listedDump(want) {
		t.Errorf("DumpRead(%q) = %v,\n%swant\n%s", text, ok, listedDump(got), listedDump(want))
	}
	if !impl.DumpSame(got, want) || !impl.DumpSame(want, got) {
		t.Errorf("DumpRead(%q) and what was written are not the same", text)
	}
}

// wantNoDump asks that a text is that of nothing that is kept.
func wantNoDump(t *testing.T, text string) {
	t.Helper()
	if got, ok := impl.DumpRead(text); ok || listedDump(got) != listedDump(impl.Dump{}) {
		t.Errorf("DumpRead(%q) = %v,\n%swant nothing", text, ok, listedDump(got))
	}
}

// wantDumpNotOk asks the answers of something that is not ok, and that nothing but what the model tells is read from what it would be written as.
func wantDumpNotOk(t *testing.T, what string, d impl.Dump) {
	t.Helper()
	if impl.DumpOk(d) {
		t.Errorf("%s: DumpOk = true of\n%s", what, listedDump(d))
	}
	if got := impl.DumpSize(d); got != 0 {
		t.Errorf("%s: DumpSize = %d of\n%s", what, got, listedDump(d))
	}
	if got := impl.DumpText(d); got != "" {
		t.Errorf("%s: DumpText = %q of\n%s", what, got, listedDump(d))
	}
	wantReadAsModel(t, modelDumpText(d))
}

// kept is a tree, since when it is kept, which places are not free, which were turned, how much that is, and its text.
type kept struct {
	what  string
	x     impl.Tree
	since int
	live  string
	inos  []int
	size  int
	lines []string
}

// wantKept asks all six functions for the whole of what they answer of what is kept of a tree.
func wantKept(t *testing.T, c kept) {
	t.Helper()
	if !modelOk(c.x) {
		t.Fatalf("%s: the test's own tree is not ok:\n%s", c.what, listed(c.x))
	}
	want := dump(c.since, c.x.Now, c.live)
	for _, ino := range c.inos {
		want.Items = append(want.Items, item(ino, cloneNode(c.x.Nodes[ino])))
	}
	got, ok := impl.DumpOf(c.x, c.since)
	if !ok || listedDump(got) != listedDump(want) {
		t.Errorf("%s: DumpOf since %d = %v,\n%swant\n%s", c.what, c.since, ok, listedDump(got), listedDump(want))
	}
	if !impl.DumpSame(got, want) || !impl.DumpSame(want, got) {
		t.Errorf("%s: DumpSame = false of\n%sand\n%s", c.what, listedDump(got), listedDump(want))
	}
	wantDumpOk(t, c.what, got, c.size, c.lines...)
}

// wantNotKept asks that nothing is kept of a tree.
func wantNotKept(t *testing.T, x impl.Tree, since int) {
	t.Helper()
	if got, ok := impl.DumpOf(x, since); ok || listedDump(got) != listedDump(impl.Dump{}) {
		t.Errorf("DumpOf since %d = %v,\n%swant nothing of\n%s", since, ok, listedDump(got), listed(x))
	}
}

func TestDumpOrdinary(t *testing.T) {
	house := []string{
		"0 9 dir a=1 b=4 c=4 home=7", "1 3 dir ab=2 x=6 zzzz=8", "2 4 dir", "4 5 'twice'", "6 1 ''", "7 9 dir deep=9 x=6", "8 2 'z'", "9 8 dir b=4",
	}
	sizes := []int{5, 4, 1, 6, 1, 3, 2, 2}
	inos := []int{0, 1, 2, 4, 6, 7, 8, 9}
	turns := []int{9, 3, 4, 5, 1, 9, 2, 8}
	for since := 0; since <= 9; since++ {
		c := kept{fmt.Sprint("house since ", since), houseTree(), since, "1110101111", nil, 0, []string{fmt.Sprint(since, " 9 1110101111")}}
		for i, at := range turns {
			if at > since {
				c.inos, c.size, c.lines = append(c.inos, inos[i]), c.size+sizes[i], append(c.lines, house[i])
			}
		}
		wantKept(t, c)
	}
	sample := tree(5, dir(5, "a", 1, "b", 2), dir(3, "c", 2, "d", 4), file(4, "hi"), free(), file(2, ""))
	wantKept(t, kept{"sample since 0", sample, 0, "11101", []int{0, 1, 2, 4}, 10, []string{"0 5 11101", "0 5 dir a=1 b=2", "1 3 dir c=2 d=4", "2 4 'hi'", "4 2 ''"}})
	wantKept(t, kept{"sample since 3", sample, 3, "11101", []int{0, 2}, 6, []string{"3 5 11101", "0 5 dir a=1 b=2", "2 4 'hi'"}})
	wantKept(t, kept{"sample since 4", sample, 4, "11101", []int{0}, 3, []string{"4 5 11101", "0 5 dir a=1 b=2"}})
	wantKept(t, kept{"sample since 5", sample, 5, "11101", nil, 0, []string{"5 5 11101"}})
}

func TestDumpOfFewAndManyPlaces(t *testing.T) {
	full := flat(9)
	for ino := 1; ino <= 9; ino++ {
		full.Nodes[ino].Text = "zzzzzz"
	}
	for _, c := range []kept{
		{"a root alone", impl.TreeNew(1), 0, "1", []int{0}, 1, []string{"0 1 1", "0 1 dir"}},
		{"a root alone, not turned", impl.TreeNew(1), 1, "1", nil, 0, []string{"1 1 1"}},
		{"a root alone, at the last turn", impl.TreeNew(1000), 0, "1", []int{0}, 1, []string{"0 1000 1", "0 1000 dir"}},
		{"a root alone, turned at the last turn", impl.TreeNew(1000), 999, "1", []int{0}, 1, []string{"999 1000 1", "0 1000 dir"}},
		{"a root alone, since the last turn", impl.TreeNew(1000), 1000, "1", nil, 0, []string{"1000 1000 1"}},
		{"a root that was turned long ago", tree(1000, dir(1)), 0, "1", []int{0}, 1, []string{"0 1000 1", "0 1 dir"}},
		{"a root that was turned long ago, since then", tree(1000, dir(1)), 1, "1", nil, 0, []string{"1 1000 1"}},
		{"all places", full, 0, "1111111111", []int{0, 1, 2, 3, 4, 5, 6, 7, 8, 9}, 73, []string{
			"0 1 1111111111", "0 1 dir a=1 b=2 c=3 d=4 e=5 f=6 g=7 h=8 i=9",
			"1 1 'zzzzzz'", "2 1 'zzzzzz'", "3 1 'zzzzzz'", "4 1 'zzzzzz'", "5 1 'zzzzzz'", "6 1 'zzzzzz'", "7 1 'zzzzzz'", "8 1 'zzzzzz'", "9 1 'zzzzzz'"}},
		{"all places, none turned", full, 1, "1111111111", nil, 0, []string{"1 1 1111111111"}},
		{"directories within each other", chain(10), 0, "1111111111", []int{0, 1, 2, 3, 4, 5, 6, 7, 8, 9}, 19, []string{
			"0 1 1111111111", "0 1 dir d=1", "1 1 dir d=2", "2 1 dir d=3", "3 1 dir d=4", "4 1 dir d=5", "5 1 dir d=6", "6 1 dir d=7", "7 1 dir d=8", "8 1 dir d=9", "9 1 dir"}},
		{"an empty file", tree(2, dir(2, "a", 1), file(1, "")), 0, "11", []int{0, 1}, 3, []string{"0 2 11", "0 2 dir a=1", "1 1 ''"}},
		{"a full file", tree(2, dir(1, "abcd", 1), file(2, "azazaz")), 1, "11", []int{1}, 7, []string{"1 2 11", "1 2 'azazaz'"}},
		{"an empty directory", tree(2, dir(1, "zzzz", 1), dir(2)), 1, "11", []int{1}, 1, []string{"1 2 11", "1 2 dir"}},
		{"a file that is called as a directory", tree(2, dir(2, "dir", 1), file(2, "dir")), 0, "11", []int{0, 1}, 6, []string{"0 2 11", "0 2 dir dir=1", "1 2 'dir'"}},
		{"a file with several names", tree(3, dir(1, "a", 1, "b", 1, "c", 1), file(3, "x")), 2, "11", []int{1}, 2, []string{"2 3 11", "1 3 'x'"}},
		{"several directories and files", tree(12, dir(10, "a", 1, "b", 2), dir(11, "a", 3, "b", 3), file(9, "x"), file(12, "y")), 9, "1111", []int{0, 1, 3}, 8, []string{
			"9 12 1111", "0 10 dir a=1 b=2", "1 11 dir a=3 b=3", "3 12 'y'"}},
	} {
		wantKept(t, c)
	}
}

func TestDumpOfFreePlaces(t *testing.T) {
	for _, c := range []kept{
		{"at the end", without(flat(3), 3), 0, "1110", []int{0, 1, 2}, 7, []string{"0 1 1110", "0 1 dir a=1 b=2", "1 1 't'", "2 1 't'"}},
		{"two at the end", without(flat(3), 3, 2), 0, "1100", []int{0, 1}, 4, []string{"0 1 1100", "0 1 dir a=1", "1 1 't'"}},
		{"between others", without(flat(3), 2), 0, "1101", []int{0, 1, 3}, 7, []string{"0 1 1101", "0 1 dir a=1 c=3", "1 1 't'", "3 1 't'"}},
		{"behind the root", without(flat(3), 1), 0, "1011", []int{0, 2, 3}, 7, []string{"0 1 1011", "0 1 dir b=2 c=3", "2 1 't'", "3 1 't'"}},
		{"all but the root", without(flat(9), 1, 2, 3, 4, 5, 6, 7, 8, 9), 0, "1000000000", []int{0}, 1, []string{"0 1 1000000000", "0 1 dir"}},
		{"all but the root, nothing turned", without(flat(9), 1, 2, 3, 4, 5, 6, 7, 8, 9), 1, "1000000000", nil, 0, []string{"1 1 1000000000"}},
		{"each second one", without(flat(9), 1, 3, 5, 7, 9), 1, "1010101010", nil, 0, []string{"1 1 1010101010"}},
		{"the last of ten alone", without(flat(9), 1, 2, 3, 4, 5, 6, 7, 8), 0, "1000000001", []int{0, 9}, 4, []string{"0 1 1000000001", "0 1 dir i=9", "9 1 't'"}},
	} {
		wantKept(t, c)
	}
}

// A tree is turned, and each time it is told what was turned since each turn ahead.
func TestDumpOfWhatWasDone(t *testing.T) {
	x := impl.TreeNew(1)
	for _, d := range []deed{newDir("/a"), newFile("/a/b"), putText("/a/b", "hello"), newFile("/c")} {
		x, _ = d.do(x)
	}
	steps := func(x impl.Tree, deeds ...deed) impl.Tree {
		for _, d := range deeds {
			next, code := d.do(x)
			if code != impl.MakeFine {
				t.Fatalf("%v ended with %d", d, code)
			}
			x = next
		}
		return x
	}
	refused, code := drop("/a").do(x)
	if code != impl.MakeBad {
		t.Fatalf("a directory with something in it was dropped: %d", code)
	}
	for _, c := range []kept{
		{"nothing since", x, 5, "1111", nil, 0, []string{"5 5 1111"}},
		{"a new file", x, 4, "1111", []int{0, 3}, 4, []string{"4 5 1111", "0 5 dir a=1 c=3", "3 5 ''"}},
		{"a new file and a text", x, 3, "1111", []int{0, 2, 3}, 10, []string{"3 5 1111", "0 5 dir a=1 c=3", "2 4 'hello'", "3 5 ''"}},
		{"a text", steps(x, putText("/c", "x")), 5, "1111", []int{3}, 2, []string{"5 6 1111", "3 6 'x'"}},
		{"a text that was there", steps(x, putText("/a/b", "hello")), 5, "1111", []int{2}, 6, []string{"5 6 1111", "2 6 'hello'"}},
		{"a link", steps(x, link("/a/b", "/d")), 5, "1111", []int{0, 2}, 10, []string{"5 6 1111", "0 6 dir a=1 c=3 d=2", "2 6 'hello'"}},
		{"a move", steps(x, move("/c", "/a/c")), 5, "1111", []int{0, 1, 3}, 6, []string{"5 6 1111", "0 6 dir a=1", "1 6 dir b=2 c=3", "3 6 ''"}},
		{"a drop at the end", steps(x, drop("/c")), 5, "1110", []int{0}, 2, []string{"5 6 1110", "0 6 dir a=1"}},
		{"a drop between others", steps(x, drop("/a/b")), 5, "1101", []int{1}, 1, []string{"5 6 1101", "1 6 dir"}},
		{"a drop of one name of two", steps(x, link("/a/b", "/d"), drop("/d")), 6, "1111", []int{0, 2}, 9, []string{"6 7 1111", "0 7 dir a=1 c=3", "2 7 'hello'"}},
		{"a place that was taken anew", steps(x, drop("/a/b"), newDir("/a/z")), 5, "1111", []int{1, 2}, 3, []string{"5 7 1111", "1 7 dir z=2", "2 7 dir"}},
		{"a place that was taken anew, since it was free", steps(x, drop("/a/b"), newDir("/a/z")), 6, "1111", []int{1, 2}, 3, []string{"6 7 1111", "1 7 dir z=2", "2 7 dir"}},
		{"a place that was taken anew elsewhere", steps(x, drop("/a/b"), newFile("/q")), 5, "1111", []int{0, 1, 2}, 6, []string{"5 7 1111", "0 7 dir a=1 c=3 q=2", "1 6 dir", "2 7 ''"}},
		{"what was done and undone", steps(x, newFile("/q"), drop("/q")), 5, "11110", []int{0}, 3, []string{"5 7 11110", "0 7 dir a=1 c=3"}},
		{"what could not be done", refused, 5, "1111", nil, 0, []string{"5 5 1111"}},
	} {
		wantKept(t, c)
	}
}

// Each place by itself is turned at each turn, and is kept just if that is behind the turn since which it is kept.
func TestDumpOfWhatWasTurnedJustThen(t *testing.T) {
	for _, now := range []int{7, 1000} {
		for ino := range 4 {
			for _, at := range []int{1, 2, now / 2, now - 1, now} {
				x := tree(now, dir(1, "a", 1, "b", 2), dir(1, "c", 3), file(1, "b"), file(1, "c"), free())
				x.Nodes[ino].At = at
				for _, since := range []int{1, 2, at - 1, at, at + 1, now - 1, now} {
					if since < 1 || since > now {
						continue
					}
					d, ok := impl.DumpOf(x, since)
					var want []impl.Item
					if at > since {
						want = []impl.Item{item(ino, x.Nodes[ino])}
					}
					if got := dump(since, now, "11110", want...); !ok || listedDump(d) != listedDump(got) {
						t.Errorf("place %d turned at %d of %d, kept since %d, is %v,\n%swant\n%s", ino, at, now, since, ok, listedDump(d), listedDump(got))
					}
				}
			}
		}
	}
}

func TestDumpOfWrongSince(t *testing.T) {
	for _, x := range []impl.Tree{houseTree(), impl.TreeNew(1), impl.TreeNew(1000), flat(9), chain(10)} {
		for _, since := range []int{-1, -2, -1000, math.MinInt, x.Now + 1, x.Now + 2, 1001, 2000, math.MaxInt} {
			wantNotKept(t, x, since)
		}
		for _, since := range []int{0, 1, x.Now - 1, x.Now} {
			if d, ok := impl.DumpOf(x, since); !ok || !impl.DumpOk(d) || d.Since != since || d.Date != x.Now {
				t.Errorf("DumpOf since %d = %v,\n%s", since, ok, listedDump(d))
			}
		}
	}
}

func TestDumpOfTreesThatAreNotOk(t *testing.T) {
	for _, x := range treesNotOk() {
		for _, since := range []int{0, 1, x.Now - 1, x.Now, x.Now + 1, -1} {
			wantNotKept(t, x, since)
		}
	}
}

// keptBase has a place that is free, one that was not turned, and each kind of place that was.
func keptBase() impl.Dump {
	return dump(3, 9, "1101110", item(0, dir(9, "a", 1, "b", 3, "c", 3)), item(1, dir(4)), item(3, file(5, "twice")), item(5, file(9, "")))
}

// bentDump is keptBase, bent.
func bentDump(f func(d *impl.Dump)) impl.Dump {
	d := cloneDump(keptBase())
	f(&d)
	return d
}

func TestDumpOkOrdinary(t *testing.T) {
	wantDumpOk(t, "base", keptBase(), 12, "3 9 1101110", "0 9 dir a=1 b=3 c=3", "1 4 dir", "3 5 'twice'", "5 9 ''")
	wantDumpOk(t, "no items", dump(0, 1, "1"), 0, "0 1 1")
	wantDumpOk(t, "no items, since Date", dump(9, 9, "101"), 0, "9 9 101")
	wantDumpOk(t, "no items, till the last turn", dump(1000, 1000, "1111111111"), 0, "1000 1000 1111111111")
	wantDumpOk(t, "Since one below Date", dump(8, 9, "11", item(1, file(9, "z"))), 2, "8 9 11", "1 9 'z'")
	wantDumpOk(t, "free places at the end", dump(0, 9, "1000000000", item(0, dir(1))), 1, "0 9 1000000000", "0 1 dir")
	wantDumpOk(t, "the last place", dump(0, 9, "1000000001", item(9, file(1, "abcdef"))), 7, "0 9 1000000001", "9 1 'abcdef'")
	wantDumpOk(t, "a root that was not turned", dump(0, 9, "11", item(1, dir(1, "a", 1))), 2, "0 9 11", "1 1 dir a=1")
}

// What is kept is a part of a tree: whether all of it is reached, and by how many names, is not asked.
func TestDumpOkOfWhatIsNoTree(t *testing.T) {
	wantDumpOk(t, "a file that has no name", dump(0, 2, "11", item(0, dir(1)), item(1, file(2, ""))), 2, "0 2 11", "0 1 dir", "1 2 ''")
	wantDumpOk(t, "a place of which nothing is known", dump(0, 2, "1111", item(0, dir(1, "a", 3))), 2, "0 2 1111", "0 1 dir a=3")
	wantDumpOk(t, "a directory in itself", dump(0, 2, "11", item(1, dir(2, "a", 1, "b", 1))), 3, "0 2 11", "1 2 dir a=1 b=1")
	wantDumpOk(t, "directories in each other", dump(0, 2, "111", item(1, dir(2, "a", 2)), item(2, dir(1, "a", 1))), 4, "0 2 111", "1 2 dir a=2", "2 1 dir a=1")
	wantDumpOk(t, "a directory with two names", dump(0, 2, "11", item(0, dir(2, "a", 1, "b", 1)), item(1, dir(1))), 4, "0 2 11", "0 2 dir a=1 b=1", "1 1 dir")
}

func TestDumpNotOk(t *testing.T) {
	wantDumpOk(t, "base", bentDump(func(d *impl.Dump) {}), 12, strings.Split(strings.TrimSuffix(modelDumpText(keptBase()), "\n"), "\n")...)
	node := func(i int, f func(n *impl.Node)) func(d *impl.Dump) {
		return func(d *impl.Dump) { f(&d.Items[i].Node) }
	}
	for what, f := range map[string]func(d *impl.Dump){
		"Since below 0":                       func(d *impl.Dump) { d.Since = -1 },
		"Since far below 0":                   func(d *impl.Dump) { d.Since = math.MinInt },
		"Since above Date":                    func(d *impl.Dump) { d.Since, d.Items = 10, nil },
		"Since far above Date":                func(d *impl.Dump) { d.Since, d.Items = math.MaxInt, nil },
		"Date 0":                              func(d *impl.Dump) { d.Since, d.Date, d.Items = 0, 0, nil },
		"Date below 0":                        func(d *impl.Dump) { d.Since, d.Date, d.Items = -1, -1, nil },
		"Date below 0, Since 0":               func(d *impl.Dump) { d.Since, d.Date, d.Items = 0, -1, nil },
		"Date above TimeMost":                 func(d *impl.Dump) { d.Date = 1001 },
		"Date and Since above TimeMost":       func(d *impl.Dump) { d.Date, d.Since, d.Items = 1001, 1001, nil },
		"Date far above TimeMost":             func(d *impl.Dump) { d.Date = math.MaxInt },
		"Live nothing":                        func(d *impl.Dump) { d.Live = nil },
		"Live and Items nothing":              func(d *impl.Dump) { d.Live, d.Items = nil, nil },
		"Live empty":                          func(d *impl.Dump) { d.Live, d.Items = []bool{}, nil },
		"Live too short for an Ino":           func(d *impl.Dump) { d.Live = d.Live[:5] },
		"Live too short for a Kid":            func(d *impl.Dump) { d.Live, d.Items = d.Live[:3], d.Items[:2] },
		"Live too long":                       func(d *impl.Dump) { d.Live = append(d.Live, true, true, true, true) },
		"Live too long, of free places":       func(d *impl.Dump) { d.Live = append(d.Live, make([]bool, 4)...) },
		"Live far too long":                   func(d *impl.Dump) { d.Live = append(d.Live, make([]bool, 1000)...) },
		"Live with a first one that is false": func(d *impl.Dump) { d.Live[0], d.Items = false, d.Items[1:] },
		"Live with all false":                 func(d *impl.Dump) { d.Live, d.Items = make([]bool, 3), nil },
		"Live false, and an Item of the root": func(d *impl.Dump) { d.Live[0] = false },
		"an Ino twice":                        func(d *impl.Dump) { d.Items[2].Ino = 1 },
		"the first Ino twice":                 func(d *impl.Dump) { d.Items = slices.Insert(d.Items, 0, item(0, dir(9))) },
		"an Item twice":                       func(d *impl.Dump) { d.Items = append(d.Items, d.Items[3]) },
		"Inos out of order":                   func(d *impl.Dump) { d.Items[1], d.Items[2] = d.Items[2], d.Items[1] },
		"the last Inos out of order":          func(d *impl.Dump) { d.Items[2], d.Items[3] = d.Items[3], d.Items[2] },
		"Inos the other way round":            func(d *impl.Dump) { slices.Reverse(d.Items) },
		"the root behind another":             func(d *impl.Dump) { d.Items[0], d.Items[1] = d.Items[1], d.Items[0] },
		"an Ino below 0":                      func(d *impl.Dump) { d.Items[0].Ino = -1 },
		"an Ino far below 0":                  func(d *impl.Dump) { d.Items[0].Ino = math.MinInt },
		"an Ino past the end":                 func(d *impl.Dump) { d.Items[3].Ino = 7 },
		"an Ino of NodeMost":                  func(d *impl.Dump) { d.Items[3].Ino = 10 },
		"an Ino past all bits":                func(d *impl.Dump) { d.Items[3].Ino = 64 },
		"an Ino far past the end":             func(d *impl.Dump) { d.Items[3].Ino = math.MaxInt },
		"an Ino that is not live":             func(d *impl.Dump) { d.Items[2].Ino = 2 },
		"an Ino at the end that is not live":  func(d *impl.Dump) { d.Items[3].Ino = 6 },
		"a free place":                        func(d *impl.Dump) { d.Items[2].Node = free() },
		"a free place with a turn":            func(d *impl.Dump) { d.Items[2].Node = impl.Node{At: 5} },
		"a free root":                         func(d *impl.Dump) { d.Items[0].Node = free() },
		"a kind below 0":                      node(2, func(n *impl.Node) { n.Kind = -1 }),
		"a kind that is none":                 node(2, func(n *impl.Node) { n.Kind = 3 }),
		"a directory of a kind that is none":  node(1, func(n *impl.Node) { n.Kind = 3 }),
		"a kind that is far from one":         node(2, func(n *impl.Node) { n.Kind = math.MaxInt }),
		"a file at place 0":                   func(d *impl.Dump) { d.Items[0].Node = file(9, "a") },
		"an empty file at place 0":            func(d *impl.Dump) { d.Items[0].Node = file(9, "") },
		"a file turned at Since":              node(2, func(n *impl.Node) { n.At = 3 }),
		"a directory turned at Since":         node(0, func(n *impl.Node) { n.At = 3 }),
		"a file turned ahead of Since":        node(2, func(n *impl.Node) { n.At = 2 }),
		"a directory turned behind Date":      node(1, func(n *impl.Node) { n.At = 10 }),
		"a file turned behind Date":           node(3, func(n *impl.Node) { n.At = 10 }),
		"a turn of 0":                         node(1, func(n *impl.Node) { n.At = 0 }),
		"a turn below 0":                      node(1, func(n *impl.Node) { n.At = -4 }),
		"a turn of 0, since 0":                func(d *impl.Dump) { d.Since, d.Items[1].Node.At = 0, 0 },
		"a file of a directory's kind":        node(2, func(n *impl.Node) { n.Kind = impl.NodeDir }),
		"a text that is too long":             node(2, func(n *impl.Node) { n.Text = "abcdefg" }),
		"a text with a great letter":          node(2, func(n *impl.Node) { n.Text = "aB" }),
		"a text with a digit":                 node(2, func(n *impl.Node) { n.Text = "a1" }),
		"a text with a quote":                 node(2, func(n *impl.Node) { n.Text = "a'a" }),
		"a text with a quote at its end":      node(2, func(n *impl.Node) { n.Text = "a'" }),
		"a text with a space":                 node(2, func(n *impl.Node) { n.Text = "a b" }),
		"a text with a newline":               node(2, func(n *impl.Node) { n.Text = "a\n" }),
		"a text with another letter":          node(2, func(n *impl.Node) { n.Text = "ä" }),
		"a text with a zero byte":             node(2, func(n *impl.Node) { n.Text = "a\x00" }),
		"a file with names":                   node(2, func(n *impl.Node) { n.Names = []string{"a"} }),
		"a file with Kids":                    node(2, func(n *impl.Node) { n.Kids = []int{1} }),
		"a file with names and Kids":          node(2, func(n *impl.Node) { n.Names, n.Kids = []string{"a"}, []int{1} }),
		"a directory of a file's kind":        node(0, func(n *impl.Node) { n.Kind = impl.NodeFile }),
		"a directory with a text":             node(0, func(n *impl.Node) { n.Text = "a" }),
		"an empty directory with a text":      node(1, func(n *impl.Node) { n.Text = "a" }),
		"an empty name":                       node(0, func(n *impl.Node) { n.Names[0] = "" }),
		"a name that is too long":             node(0, func(n *impl.Node) { n.Names[0] = "abcde" }),
		"a name with a great letter":          node(0, func(n *impl.Node) { n.Names[0] = "A" }),
		"a name with a digit":                 node(0, func(n *impl.Node) { n.Names[0] = "a1" }),
		"a name with a sign":                  node(0, func(n *impl.Node) { n.Names[0] = "a=" }),
		"a name with a space":                 node(0, func(n *impl.Node) { n.Names[0] = "a " }),
		"a last name that is none":            node(0, func(n *impl.Node) { n.Names[2] = "c-" }),
		"names out of order":                  node(0, func(n *impl.Node) { n.Names[0] = "bb" }),
		"last names out of order":             node(0, func(n *impl.Node) { n.Names[2] = "ab" }),
		"a name twice":                        node(0, func(n *impl.Node) { n.Names[0] = "b" }),
		"a last name twice":                   node(0, func(n *impl.Node) { n.Names[2] = "b" }),
		"too few Kids":                        node(0, func(n *impl.Node) { n.Kids = n.Kids[:2] }),
		"no Kids":                             node(0, func(n *impl.Node) { n.Kids = nil }),
		"too many Kids":                       node(0, func(n *impl.Node) { n.Kids = append(n.Kids, 3) }),
		"no names":                            node(0, func(n *impl.Node) { n.Names = nil }),
		"a Kid of an empty directory":         node(1, func(n *impl.Node) { n.Kids = []int{3} }),
		"a Kid that is the root":              node(0, func(n *impl.Node) { n.Kids[1] = 0 }),
		"a last Kid that is the root":         node(0, func(n *impl.Node) { n.Kids[2] = 0 }),
		"a Kid below 0":                       node(0, func(n *impl.Node) { n.Kids[0] = -1 }),
		"a Kid far below 0":                   node(0, func(n *impl.Node) { n.Kids[0] = math.MinInt }),
		"a Kid past the end":                  node(0, func(n *impl.Node) { n.Kids[0] = 7 }),
		"a Kid of NodeMost":                   node(0, func(n *impl.Node) { n.Kids[2] = 10 }),
		"a Kid past all bits":                 node(0, func(n *impl.Node) { n.Kids[2] = 65 }),
		"a Kid far past the end":              node(0, func(n *impl.Node) { n.Kids[2] = math.MaxInt }),
		"a Kid that is not live":              node(0, func(n *impl.Node) { n.Kids[0] = 2 }),
		"a last Kid that is not live":         node(0, func(n *impl.Node) { n.Kids[2] = 6 }),
		"nothing":                             func(d *impl.Dump) { *d = impl.Dump{} },
	} {
		wantDumpNotOk(t, what, bentDump(f))
	}
}

// Ten places are the most that Live may have, all of them or none but the first being live.
func TestDumpOkManyPlaces(t *testing.T) {
	for size := range 13 {
		for _, sign := range []string{"0", "1"} {
			live := strings.Repeat("1", min(size, 1)) + strings.Repeat(sign, max(size-1, 0))
			if d := dump(0, 1, live); 1 <= size && size <= 10 {
				wantDumpOk(t, live, d, 0, "0 1 "+live)
			} else {
				wantDumpNotOk(t, live, d)
			}
		}
	}
}

func TestDumpSame(t *testing.T) {
	node := func(i int, f func(n *impl.Node)) impl.Dump {
		return bentDump(func(d *impl.Dump) { f(&d.Items[i].Node) })
	}
	all := []impl.Dump{
		{}, {Since: 1}, {Date: 1}, {Live: []bool{false}}, {Live: []bool{true}}, {Items: make([]impl.Item, 1)}, {Items: make([]impl.Item, 2)}, {Live: []bool{false, false}},
		keptBase(),
		bentDump(func(d *impl.Dump) { d.Since = 2 }), bentDump(func(d *impl.Dump) { d.Since = 9 }), bentDump(func(d *impl.Dump) { d.Date = 10 }),
		bentDump(func(d *impl.Dump) { d.Since, d.Date = d.Date, d.Since }),
		bentDump(func(d *impl.Dump) { d.Live = d.Live[:6] }), bentDump(func(d *impl.Dump) { d.Live = append(d.Live, false) }), bentDump(func(d *impl.Dump) { d.Live = nil }),
		bentDump(func(d *impl.Dump) { d.Live[0] = false }), bentDump(func(d *impl.Dump) { d.Live[4] = false }), bentDump(func(d *impl.Dump) { d.Live[6] = true }),
		bentDump(func(d *impl.Dump) { d.Items = nil }), bentDump(func(d *impl.Dump) { d.Items = d.Items[:3] }), bentDump(func(d *impl.Dump) { d.Items = d.Items[1:] }),
		bentDump(func(d *impl.Dump) { d.Items = append(d.Items, d.Items[3]) }), bentDump(func(d *impl.Dump) { d.Items = append(d.Items, impl.Item{}) }),
		bentDump(func(d *impl.Dump) { d.Items[0], d.Items[1] = d.Items[1], d.Items[0] }),
		bentDump(func(d *impl.Dump) { d.Items[0].Ino = 1 }), bentDump(func(d *impl.Dump) { d.Items[3].Ino = 4 }), bentDump(func(d *impl.Dump) { d.Items[1].Ino = 2 }),
		node(2, func(n *impl.Node) { n.Kind = 2 }), node(2, func(n *impl.Node) { n.Text = "twicf" }), node(2, func(n *impl.Node) { n.Text = "" }), node(3, func(n *impl.Node) { n.Text = "a" }),
		node(0, func(n *impl.Node) { n.Names[0] = "aa" }), node(0, func(n *impl.Node) { n.Names[2] = "d" }), node(0, func(n *impl.Node) { n.Names = n.Names[:2] }), node(0, func(n *impl.Node) { n.Kids = n.Kids[:2] }),
		node(0, func(n *impl.Node) { n.Names, n.Kids = n.Names[:2], n.Kids[:2] }), node(0, func(n *impl.Node) { n.Kids[0] = 3 }), node(0, func(n *impl.Node) { n.Kids[2] = 1 }),
		node(0, func(n *impl.Node) { n.At = 8 }), node(1, func(n *impl.Node) { n.At = 5 }), node(3, func(n *impl.Node) { n.At = 0 }), node(1, func(n *impl.Node) { n.Names = []string{"a"} }), node(1, func(n *impl.Node) { n.Kids = []int{0} }),
	}
	for i, a := range all {
		for j, b := range all {
			if got := impl.DumpSame(cloneDump(a), cloneDump(b)); got != (i == j) {
				t.Errorf("DumpSame = %v of\n%sand\n%s", got, listedDump(a), listedDump(b))
			}
		}
	}
}

func TestDumpSize(t *testing.T) {
	for _, c := range []struct {
		d    impl.Dump
		want int
	}{
		{dump(0, 1, "1"), 0}, {dump(0, 1, "1111111111"), 0}, {dump(0, 1, "1", item(0, dir(1))), 1},
		{dump(0, 1, "11", item(0, dir(1, "a", 1))), 2}, {dump(0, 1, "11", item(0, dir(1, "abcd", 1))), 2}, {dump(0, 1, "11", item(0, dir(1, "a", 1, "b", 1, "c", 1))), 4},
		{dump(0, 1, "11", item(1, file(1, ""))), 1}, {dump(0, 1, "11", item(1, file(1, "a"))), 2}, {dump(0, 1, "11", item(1, file(1, "abcdef"))), 7},
		{dump(0, 1, "111", item(1, file(1, "ab")), item(2, file(1, "abc"))), 7}, {dump(0, 1, "111", item(0, dir(1, "a", 1, "b", 2)), item(1, file(1, "ab")), item(2, dir(1, "abc", 1))), 8},
		{dump(0, 1, "101", item(0, dir(1, "a", 2)), item(2, file(1, "abcdef"))), 9},
	} {
		if got := impl.DumpSize(c.d); got != c.want {
			t.Errorf("DumpSize = %d; want %d of\n%s", got, c.want, listedDump(c.d))
		}
	}
}

func TestDumpReadNearlyAText(t *testing.T) {
	fine := []string{"3 9 1101110\n0 9 dir a=1 b=3 c=3\n1 4 dir\n3 5 'twice'\n5 9 ''\n", "0 1 1\n", "1000 1000 1\n", "0 5 1\n0 5 dir\n", "0 5 11\n1 5 ''\n", "0 5 11\n0 1 dir a=1\n"}
	for _, text := range fine {
		if got, ok := impl.DumpRead(text); !ok || impl.DumpText(got) != text {
			t.Errorf("DumpRead(%q) = %v,\n%s", text, ok, listedDump(got))
		}
	}
	for _, text := range []string{
		"", "\n", " ", "0", "0 1", "0 1 ", "0 1 \n", "0 1\n", "0 1 1", "0 1 1\n\n", "\n0 1 1\n", "0 1 1 \n", " 0 1 1\n", "0  1 1\n", "0 1  1\n", "0 1 1\r\n", "0 1 1\n ", "0 1 1\n0", "0\t1 1\n", "0 1 1\x00\n",
		"00 1 1\n", "0 01 1\n", "+0 1 1\n", "-0 1 1\n", "0 +1 1\n", "0 -1 1\n", "-1 1 1\n", "0x0 1 1\n", "0 1e0 1\n", "0 1. 1\n", "0 1_0 1\n", "0,1,1\n", "a 1 1\n", "0 b 1\n", "０ 1 1\n",
		"1 0 1\n", "0 0 1\n", "2 1 1\n", "0 1001 1\n", "1001 1001 1\n", "0 99999999999999999999 1\n", "99999999999999999999 99999999999999999999 1\n", "0 18446744073709551617 1\n", "-18446744073709551616 1 1\n",
		"0 1 0\n", "0 1 01\n", "0 1 2\n", "0 1 12\n", "0 1 1x\n", "0 1 1 1\n", "0 1 true\n", "0 1 11111111111\n", "0 1 10000000000\n", "0 1 1\n0 1 1\n", "0 1 1\n0 1\n",
		"0 5 1\n0 5 dir", "0 5 1\n0 5 dir \n", "0 5 1\n0 5  dir\n", "0 5 1\n 0 5 dir\n", "0 5 1\n0 5\n", "0 5 1\n0 5 \n", "0 5 1\n0 5 Dir\n", "0 5 1\n0 5 dirs\n", "0 5 1\n0 5 di\n", "0 5 1\n0 5 'dir'\n", "0 5 1\n0 dir\n", "0 5 1\n5 dir\n",
		"0 5 1\n\n0 5 dir\n", "0 5 1\n0 5 dir\n\n", "0 5 1\n0 5 dir\n0 5 dir\n", "0 5 1\n00 5 dir\n", "0 5 1\n0 05 dir\n", "0 5 1\n+0 5 dir\n", "0 5 1\n0 +5 dir\n", "0 5 1\n-0 5 dir\n", "0 5 1\n0 -5 dir\n", "0 5 1\n0 6 dir\n", "0 5 1\n0 0 dir\n", "5 5 1\n0 5 dir\n", "4 5 1\n0 4 dir\n",
		"0 5 1\n1 5 dir\n", "0 5 10\n1 5 dir\n", "0 5 1\n-1 5 dir\n", "0 5 1\n0 5 ''\n", "0 5 1\n0 5 'a'\n", "0 5 11\n1 5 ''\n0 5 dir\n", "0 5 1\n0 5 dir a=1\n",
		"0 5 11\n0 1 dir a=01\n", "0 5 11\n0 1 dir a=+1\n", "0 5 11\n0 1 dir a=-1\n", "0 5 11\n0 1 dir a=0\n", "0 5 11\n0 1 dir a=2\n", "0 5 10\n0 1 dir a=1\n", "0 5 11\n0 1 dir a=10\n", "0 5 11\n0 1 dir a=1x\n", "0 5 11\n0 1 dir a=\n", "0 5 11\n0 1 dir a\n", "0 5 11\n0 1 dir =1\n", "0 5 11\n0 1 dir a=1=1\n", "0 5 11\n0 1 dir a==1\n", "0 5 11\n0 1 dir a =1\n", "0 5 11\n0 1 dir a= 1\n",
		"0 5 11\n0 1 dira=1\n", "0 5 11\n0 1 dir  a=1\n", "0 5 11\n0 1 dir a=1 \n", "0 5 11\n0 1 dir a=1  b=1\n", "0 5 11\n0 1 dir a=1,b=1\n", "0 5 11\n0 1 dir a=1 a=1\n", "0 5 11\n0 1 dir b=1 a=1\n", "0 5 11\n0 1 dir A=1\n", "0 5 11\n0 1 dir abcde=1\n", "0 5 11\n0 1 dir a1=1\n", "0 5 11\n0 1 dir a=1 b\n", "0 5 11\n0 1 dir a=99999999999999999999\n", "0 5 11\n0 1 dir a=18446744073709551617\n", "0 5 11\n0 1 a=1 dir\n", "0 5 11\n0 1 a=1\n", "0 5 11\n0 1 dir dir\n", "0 5 11\n0 1 dir ''\n", "0 5 11\n0 1 dir ''=1\n",
		"0 5 11\n1 5 '\n", "0 5 11\n1 5 \n", "0 5 11\n1 5 '''\n", "0 5 11\n1 5 ''''\n", "0 5 11\n1 5 'a\n", "0 5 11\n1 5 a'\n", "0 5 11\n1 5 a\n", "0 5 11\n1 5 'a''\n", "0 5 11\n1 5 ''a'\n", "0 5 11\n1 5 'a'a\n", "0 5 11\n1 5 a'a'\n", "0 5 11\n1 5 \"a\"\n", "0 5 11\n1 5 `a`\n", "0 5 11\n1 5 ’a’\n",
		"0 5 11\n1 5 'a' \n", "0 5 11\n1 5 ' a'\n", "0 5 11\n1 5 'a '\n", "0 5 11\n1 5 'a b'\n", "0 5 11\n1 5 'a' 'b'\n", "0 5 11\n1 5 'a' a=1\n", "0 5 11\n1 5 'A'\n", "0 5 11\n1 5 'a1'\n", "0 5 11\n1 5 'abcdefg'\n", "0 5 11\n1 5 'ä'\n", "0 5 11\n1 5 'a\n'\n", "0 5 11\n1 5 'a'\n1 5 'a'\n", "0 5 11\n1 5  'a'\n", "0 5 11\n1  5 'a'\n", "0 5 11\n1 5 'a'", "0 5 11\n1 5 'a'1 5 'b'\n", "0 5 11\n1 3 'A'\n", "0 5 11\n1 3 ''\n1 3 ''\n",
		"1 5 'a'\n", "0 5 dir\n", "1 5 'a'\n0 5 11\n", "0 5 111\n2 5 'b'\n1 5 'a'\n", "0 5 11\n0 5 11\n1 5 'a'\n", "vol 1 1 0\n0 1 1\n", "/ dir\n", "nothing that is kept", "0 1 1\nend\n", "end\n", "\xff\xfe", "0 1 1\n\xff\n", "'\n", "dir\n", " \n \n ",
	} {
		wantNoDump(t, text)
	}
}

// textsNearby calls f with each beginning and each end of a text, and with it where one byte is taken away or doubled, or one of these signs put ahead of it or in its place.
func textsNearby(text string, signs string, f func(text string)) {
	for at := range len(text) + 1 {
		for i := range len(signs) {
			f(text[:at] + signs[i:i+1] + text[at:])
			if at < len(text) {
				f(text[:at] + signs[i:i+1] + text[at+1:])
			}
		}
		f(text[:at])
		f(text[at:])
		if at < len(text) {
			f(text[:at] + text[at+1:])
			f(text[:at] + text[at:at+1] + text[at:])
		}
	}
}

// Each byte of a text is taken away, doubled, and others are put ahead of it and in its place; each line is taken away, doubled, and put elsewhere.
func TestDumpReadEveryTextNearby(t *testing.T) {
	signs := "0129 \n'=-+adirzA\x00\xff"
	read := 0
	near := func(text string) {
		t.Helper()
		if wantReadAsModel(t, text) {
			read++
		}
	}
	for _, d := range []impl.Dump{keptBase(), dump(0, 1, "1"), dump(0, 10, "101", item(0, dir(10, "dir", 2)), item(2, file(1, "dir"))), dump(99, 100, "11", item(1, dir(100, "a", 1, "ab", 1)))} {
		text := impl.DumpText(d)
		textsNearby(text, signs, near)
		lines := strings.SplitAfter(strings.TrimSuffix(text, "\n"), "\n")
		lines[len(lines)-1] += "\n"
		for i := range lines {
			near(strings.Join(slices.Delete(slices.Clone(lines), i, i+1), ""))
			near(strings.Join(slices.Insert(slices.Clone(lines), i, lines[i]), ""))
			for j := range lines {
				swapped := slices.Clone(lines)
				swapped[i], swapped[j] = swapped[j], swapped[i]
				near(strings.Join(swapped, ""))
			}
		}
	}
	if read < 100 {
		t.Errorf("only %d texts were read", read)
	}
}

// wideTree is a root with so many names of four letters, all of one file with that text.
func wideTree(names int, text string) impl.Tree {
	x := tree(1, dir(1), file(1, text))
	for i := range names {
		name := string([]byte{'a', 'a' + byte(i/676%26), 'a' + byte(i/26%26), 'a' + byte(i%26)})
		x.Nodes[0].Names, x.Nodes[0].Kids = append(x.Nodes[0].Names, name), append(x.Nodes[0].Kids, 1)
	}
	return x
}

func TestDumpReadLongTexts(t *testing.T) {
	for _, c := range []struct {
		names int
		text  string
		bytes int
	}{
		{281, "abcdef", 1995}, {282, "abc", 1999}, {282, "abcd", 2000}, {282, "abcde", 2001}, {282, "abcdef", 2002}, {283, "", 2003}, {1000, "abc", 7025}, {17000, "", 119022},
	} {
		x := wideTree(c.names, c.text)
		d, ok := impl.DumpOf(x, 0)
		if !ok || !impl.DumpOk(d) || impl.DumpSize(d) != 2+c.names+len(c.text) {
			t.Fatalf("%d names: DumpOf = %v, DumpOk = %v, DumpSize = %d", c.names, ok, impl.DumpOk(d), impl.DumpSize(d))
		}
		text := impl.DumpText(d)
		if len(text) != c.bytes || text != modelDumpText(d) {
			t.Fatalf("%d names: DumpText has %d bytes; want %d", c.names, len(text), c.bytes)
		}
		got, ok := impl.DumpRead(text)
		if c.bytes <= 2000 && (!ok || !impl.DumpSame(got, d) || listedDump(got) != listedDump(d)) {
			t.Errorf("a text of %d bytes is not read as it was", c.bytes)
		}
		if c.bytes > 2000 && (ok || listedDump(got) != listedDump(impl.Dump{})) {
			t.Errorf("a text of %d bytes is read", c.bytes)
		}
	}
	for _, sign := range []string{"0", "1", "9", " ", "\n", "a", "'", "\x00", "0 1 1\n", "0 1 dir\n", "1 1 ''\n"} {
		for _, size := range []int{1999, 2000, 2001, 100000} {
			long := strings.Repeat(sign, size)[:size]
			wantNoDump(t, long)
			wantNoDump(t, "0 1 11\n"+long)
			wantNoDump(t, "0 1 11"+long)
			wantNoDump(t, "0 1 11\n0 1 dir"+long)
			wantNoDump(t, "0 1 11\n0 1 dir a="+long)
			wantNoDump(t, "0 1 11\n1 1 '"+long+"'\n")
		}
	}
}

// hollowDump is the same with the other value for each empty list.
func hollowDump(d impl.Dump) impl.Dump {
	d = cloneDump(d)
	for i, of := range d.Items {
		d.Items[i].Node = hollow(tree(1, of.Node)).Nodes[0]
	}
	if len(d.Live) == 0 {
		d.Live = []bool{}
	}
	if d.Items == nil {
		d.Items = []impl.Item{}
	} else if len(d.Items) == 0 {
		d.Items = nil
	}
	return d
}

func TestDumpEmptyListsAreNilLists(t *testing.T) {
	for _, d := range memoryDumps() {
		e := hollowDump(d)
		if !impl.DumpSame(d, e) || !impl.DumpSame(e, d) {
			t.Errorf("empty lists part\n%s", listedDump(d))
		}
		if impl.DumpOk(d) != impl.DumpOk(e) || impl.DumpSize(d) != impl.DumpSize(e) || impl.DumpText(d) != impl.DumpText(e) {
			t.Errorf("an answer hangs on empty lists\n%s", listedDump(d))
		}
	}
	for _, x := range memoryTrees() {
		d, ok := impl.DumpOf(x, 0)
		e, also := impl.DumpOf(hollow(x), 0)
		if ok != also || listedDump(d) != listedDump(e) {
			t.Errorf("DumpOf hangs on empty lists\n%s", listed(x))
		}
	}
}

// memoryDumps is things kept, of each kind, and some that are not ok.
func memoryDumps() []impl.Dump {
	all := []impl.Dump{{}, keptBase(), dump(0, 1, "1"), bentDump(func(d *impl.Dump) { d.Date = 1 }), bentDump(func(d *impl.Dump) { d.Items[0].Node.Kids[0] = 0 }), bentDump(func(d *impl.Dump) { slices.Reverse(d.Items) })}
	for _, x := range memoryTrees() {
		for _, since := range []int{0, 1, 4} {
			d, _ := impl.DumpOf(x, since)
			all = append(all, d)
		}
	}
	return all
}

// dumpSpans is where the lists and texts of what is kept lie, those in its spare room too.
func dumpSpans(what string, d impl.Dump) []span {
	all := []span{spanOf(what+" Live", d.Live), spanOf(what+" Items", d.Items)}
	for i, of := range d.Items[:cap(d.Items)] {
		n := of.Node
		all = append(all, spanOf(fmt.Sprint(what, " Names of ", i), n.Names), spanOf(fmt.Sprint(what, " Kids of ", i), n.Kids))
		all = append(all, textSpan(fmt.Sprint(what, " Text of ", i), n.Text))
		all = append(all, textSpans(fmt.Sprint(what, " name of ", i), n.Names[:cap(n.Names)])...)
	}
	return all
}

// roomyDump is the same with spare room, filled, behind each of its lists, and with texts of its own; room tells all of it, the spare room too.
func roomyDump(d impl.Dump) (e impl.Dump, room func() string) {
	e = cloneDump(d)
	for i, of := range e.Items {
		own, _ := ownTexts(tree(1, of.Node), deed{})
		own, _ = roomy(own)
		e.Items[i].Node = own.Nodes[0]
	}
	e.Live = append(e.Live, true, false, true)[:len(e.Live)]
	e.Items = append(e.Items, item(7, file(7, "room")), item(8, dir(8, "more", 5)))[:len(e.Items)]
	room = func() string {
		whole := e
		whole.Live, whole.Items = e.Live[:cap(e.Live)], slices.Clone(e.Items[:cap(e.Items)])
		for i, of := range whole.Items {
			n := of.Node
			whole.Items[i].Node.Names, whole.Items[i].Node.Kids = n.Names[:cap(n.Names)], n.Kids[:cap(n.Kids)]
		}
		return listedDump(whole)
	}
	return e, room
}

// overwriteDump writes into all of something kept, its spare room too.
func overwriteDump(d impl.Dump) {
	live, items := d.Live[:cap(d.Live)], d.Items[:cap(d.Items)]
	for i := range live {
		live[i] = !live[i]
	}
	for i := range items {
		overwrite(tree(1, items[i].Node))
		items[i] = item(99, file(77, "bent"))
	}
}

func TestDumpAnswersAreNewMemory(t *testing.T) {
	for _, given := range memoryTrees() {
		x, _ := ownTexts(given, deed{})
		x, _ = roomy(x)
		for _, since := range []int{0, 1, 4, 9} {
			d, _ := impl.DumpOf(x, since)
			wantApart(t, dumpSpans("the answer's", d), append(listSpans("the tree's", x), textSpans("the tree's text", texts(x))...))
		}
	}
	for _, given := range memoryDumps() {
		d, _ := roomyDump(given)
		text := strings.Clone(impl.DumpText(d))
		wantApart(t, []span{textSpan("DumpText", impl.DumpText(d))}, dumpSpans("what was kept, its", d))
		read, _ := impl.DumpRead(text)
		wantApart(t, dumpSpans("the answer's", read), []span{textSpan("the text", text)})
	}
}

// What stands in the spare room of an answer is nothing of what was given.
func TestDumpSpareRoomIsEmpty(t *testing.T) {
	wantEmpty := func(d impl.Dump) {
		t.Helper()
		for _, of := range d.Items[len(d.Items):cap(d.Items)] {
			if of.Ino != 0 || !impl.NodeSame(of.Node, free()) {
				t.Errorf("the spare room has %v", of)
			}
		}
		if slices.Contains(d.Live[len(d.Live):cap(d.Live)], true) {
			t.Errorf("the spare room of Live is %v", d.Live[:cap(d.Live)])
		}
		for _, of := range d.Items {
			n := of.Node
			if strings.Join(n.Names[len(n.Names):cap(n.Names)], "") != "" || slices.Max(append(n.Kids[len(n.Kids):cap(n.Kids)], 0)) != 0 {
				t.Errorf("the spare room has %q and %v", n.Names[:cap(n.Names)], n.Kids[:cap(n.Kids)])
			}
		}
	}
	for _, given := range memoryTrees() {
		x, _ := roomy(given)
		for since := range 10 {
			d, _ := impl.DumpOf(x, since)
			wantEmpty(d)
			read, _ := impl.DumpRead(impl.DumpText(d))
			wantEmpty(read)
		}
	}
}

func TestDumpWritesIntoNoArgument(t *testing.T) {
	for _, given := range memoryTrees() {
		x, room := roomy(given)
		was := room()
		for _, since := range []int{-1, 0, 1, 4, 9, 10} {
			d, _ := impl.DumpOf(x, since)
			if room() != was {
				t.Fatalf("DumpOf wrote into what was given:\n%s", was)
			}
			overwriteDump(d)
			if room() != was {
				t.Fatalf("what is written into an answer shows in what was given:\n%s", was)
			}
		}
	}
	for _, one := range memoryDumps() {
		for _, other := range memoryDumps() {
			d, roomOfD := roomyDump(one)
			e, roomOfE := roomyDump(other)
			wasD, wasE := roomOfD(), roomOfE()
			impl.DumpOk(d)
			impl.DumpSame(d, e)
			impl.DumpSize(d)
			impl.DumpText(d)
			if roomOfD() != wasD || roomOfE() != wasE {
				t.Fatalf("something was written into what was given:\n%s%s", wasD, wasE)
			}
		}
	}
}

// What is written into one part of an answer, or behind its end, shows in no other one.
func TestDumpPartsAreApart(t *testing.T) {
	for _, x := range memoryTrees() {
		want, _ := impl.DumpOf(x, 0)
		for i := range want.Items {
			of, _ := impl.DumpOf(x, 0)
			read, _ := impl.DumpRead(impl.DumpText(want))
			for _, got := range []impl.Dump{of, read} {
				overwrite(tree(1, got.Items[i].Node))
				got.Items[i].Node.Names = append(got.Items[i].Node.Names, "bent")
				got.Items[i].Node.Kids = append(got.Items[i].Node.Kids, 99)
				got.Items[i] = want.Items[i]
				if listedDump(got) != listedDump(want) {
					t.Errorf("once item %d was written into, it is\n%swant\n%s", i, listedDump(got), listedDump(want))
				}
			}
		}
	}
}

// No call leaves anything for the next one, whatever becomes of its answer.
func TestDumpKeepsNothing(t *testing.T) {
	told := func(x impl.Tree, since int) string {
		d, ok := impl.DumpOf(x, since)
		text := impl.DumpText(d)
		read, also := impl.DumpRead(text)
		said := fmt.Sprint(listedDump(d), ok, impl.DumpOk(d), impl.DumpSize(d), text, listedDump(read), also, impl.DumpSame(d, read))
		overwriteDump(d)
		overwriteDump(read)
		return said
	}
	for _, x := range append(memoryTrees(), treesNotOk()...) {
		for _, since := range []int{-1, 0, 1, 4, 9, 10} {
			first := told(x, since)
			told(houseTree(), 3)
			if second := told(x, since); first != second {
				t.Errorf("two answers are\n%s\n%s", first, second)
			}
		}
	}
}
