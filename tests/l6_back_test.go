package tests

import (
	"fmt"
	"math"
	"slices"
	"strings"
	"testing"

	"loop.example/cellarage/impl"
)

// wantBack asks BackOne for a code and a tree, every place of it.
func wantBack(t *testing.T, what string, x impl.Tree, d impl.Dump, code int, want impl.Tree) {
	t.Helper()
	got, gotCode := impl.BackOne(x, d)
	if gotCode != code || listed(got) != listed(want) {
		t.Errorf("%s: BackOne ends with %d, and is\n%swant %d, and\n%sof\n%sand\n%s", what, gotCode, listed(got), code, listed(want), listed(x), listedDump(d))
	}
	if code == impl.BackFine && (!impl.TreeSame(got, want) || !impl.TreeSame(want, got)) {
		t.Errorf("%s: TreeSame = false of\n%sand\n%s", what, listed(got), listed(want))
	}
}

// wantNotBack asks BackOne for nothing, and a code.
func wantNotBack(t *testing.T, what string, x impl.Tree, d impl.Dump, code int) {
	t.Helper()
	wantBack(t, what, x, d, code, impl.Tree{})
}

// wantBackAll asks BackAll for a code and a tree, every place of it.
func wantBackAll(t *testing.T, what string, list []impl.Dump, code int, want impl.Tree) {
	t.Helper()
	got, gotCode := impl.BackAll(list)
	if gotCode != code || listed(got) != listed(want) {
		t.Errorf("%s: BackAll ends with %d, and is\n%swant %d, and\n%sof\n%s", what, gotCode, listed(got), code, listed(want), listedDumps(list))
	}
}

// wantThen asks BackThen for what is kept, every part of it.
func wantThen(t *testing.T, what string, a, b, want impl.Dump) {
	t.Helper()
	got, ok := impl.BackThen(a, b)
	if !ok || listedDump(got) != listedDump(want) {
		t.Errorf("%s: BackThen = %v,\n%swant\n%sof\n%s", what, ok, listedDump(got), listedDump(want), listedDumps([]impl.Dump{a, b}))
	}
	if !impl.DumpOk(got) || !impl.DumpSame(got, want) {
		t.Errorf("%s: BackThen is not ok, or not the same:\n%s", what, listedDump(got))
	}
}

// wantNoThen asks BackThen for nothing and false.
func wantNoThen(t *testing.T, what string, a, b impl.Dump) {
	t.Helper()
	if got, ok := impl.BackThen(a, b); ok || listedDump(got) != listedDump(impl.Dump{}) {
		t.Errorf("%s: BackThen = %v,\n%swant nothing of\n%s", what, ok, listedDump(got), listedDumps([]impl.Dump{a, b}))
	}
}

// wantPick asks BackPick for a place, and wantNoPick for nothing and false.
func wantPick(t *testing.T, list []impl.Dump, p []string, want impl.Node) {
	t.Helper()
	got, ok := impl.BackPick(list, p)
	if !ok || listed(tree(0, got)) != listed(tree(0, want)) {
		t.Errorf("BackPick of %q = %v, %s; want %s", p, ok, listed(tree(0, got)), listed(tree(0, want)))
	}
}

func wantNoPick(t *testing.T, list []impl.Dump, p []string) {
	t.Helper()
	if got, ok := impl.BackPick(list, p); ok || listed(tree(0, got)) != listed(tree(0, free())) {
		t.Errorf("BackPick of %.60q = %v, %s; want nothing", p, ok, listed(tree(0, got)))
	}
}

func listedDumps(list []impl.Dump) string {
	var b strings.Builder
	for i, d := range list {
		fmt.Fprintf(&b, "kept %d: %s", i, listedDump(d))
	}
	return b.String()
}

// keptOf is what is kept of a tree since a turn.
func keptOf(t *testing.T, x impl.Tree, since int) impl.Dump {
	t.Helper()
	d, ok := impl.DumpOf(x, since)
	if !ok {
		t.Fatalf("nothing is kept since %d of\n%s", since, listed(x))
	}
	return d
}

// turns is a tree, and what it is behind each of these deeds.
func turns(t *testing.T, x impl.Tree, deeds ...deed) []impl.Tree {
	t.Helper()
	all := []impl.Tree{x}
	for _, d := range deeds {
		next, code := d.do(x)
		if code != impl.MakeFine {
			t.Fatalf("%v ended with %d", d, code)
		}
		x = next
		all = append(all, x)
	}
	return all
}

// chainOf keeps the first of these trees since 0, and each other one since the one ahead.
func chainOf(t *testing.T, trees ...impl.Tree) []impl.Dump {
	t.Helper()
	var list []impl.Dump
	since := 0
	for _, x := range trees {
		list = append(list, keptOf(t, x, since))
		since = x.Now
	}
	return list
}

func TestBackCodes(t *testing.T) {
	got := [4]int{impl.BackFine, impl.BackOther, impl.BackBad, impl.BackForm}
	if want := [4]int{0, 1, 2, 3}; got != want {
		t.Errorf("codes are %v; want %v", got, want)
	}
}

// backTrees is trees of each kind, all ok.
func backTrees() []impl.Tree {
	return []impl.Tree{
		houseTree(), impl.TreeNew(1), impl.TreeNew(1000), tree(1000, dir(1)), flat(1), flat(9), chain(2), chain(10),
		without(flat(9), 1, 2, 3, 4, 5, 6, 7, 8, 9), without(flat(9), 1, 3, 5, 7, 9), without(flat(9), 2, 4, 6, 8), without(flat(3), 3), bent(func(x *impl.Tree) { x.Now = 1000 }),
		tree(5, dir(5, "a", 1, "b", 2), dir(3, "c", 2, "d", 4), file(4, "hi"), free(), file(2, "")), tree(7, dir(6, "abcd", 1), file(5, "abcdef"), free(), free()), wideTree(5, "wide"), wideTree(3000, ""),
	}
}

// What was kept since 0 is the tree to the letter, over whatever tree it is brought back.
func TestBackWhatWasKeptSinceZero(t *testing.T) {
	over := append(treesNotOk(), impl.TreeNew(1), houseTree(), flat(9), chain(10))
	for i, x := range backTrees() {
		what := fmt.Sprint("tree ", i)
		wantOk(t, what, x)
		d := keptOf(t, x, 0)
		for _, y := range append(over, x) {
			wantBack(t, what, y, d, impl.BackFine, x)
		}
		wantBackAll(t, what, []impl.Dump{d}, impl.BackFine, x)
	}
}

func TestBackEverySmallTreeSinceZero(t *testing.T) {
	all := smallTrees(4)
	for i, x := range all {
		x.Now = 4 + i%3
		for ino, n := range x.Nodes {
			if n.Kind != impl.NodeFree {
				x.Nodes[ino].At = 1 + (ino+i)%4
			}
		}
		wantBackAll(t, fmt.Sprint("tree ", i), []impl.Dump{keptOf(t, x, 0)}, impl.BackFine, x)
		// Nothing was turned since Now: all that is there stays.
		wantBack(t, fmt.Sprint("tree ", i), x, keptOf(t, x, x.Now), impl.BackFine, x)
	}
	if len(all) < 500 {
		t.Errorf("only %d trees are ok", len(all))
	}
}

// story is what is done to the tree of storyBase, and what the place of which it tells is behind that.
type story struct {
	what  string
	deeds []deed
	ino   int
	n     impl.Node
}

// storyBase is a tree with /a, /a/b, /a/d, /a/d/e, /c and /f, at turn 9: places 1 to 6.
func storyBase(t *testing.T) impl.Tree {
	t.Helper()
	all := turns(t, impl.TreeNew(1), newDir("/a"), newFile("/a/b"), newFile("/c"), newDir("/a/d"), newFile("/a/d/e"), newFile("/f"), putText("/a/b", "hello"), putText("/f", "far"))
	return all[len(all)-1]
}

func stories() []story {
	return []story{
		{"nothing", nil, 0, dir(7, "a", 1, "c", 3, "f", 6)},
		{"freed at the end", []deed{drop("/f")}, 6, free()},
		{"freed between others", []deed{drop("/a/b")}, 2, free()},
		{"a directory freed between others", []deed{drop("/a/d/e"), drop("/a/d")}, 4, free()},
		{"two freed at the end", []deed{drop("/f"), drop("/a/d/e")}, 5, free()},
		{"all freed", []deed{drop("/a/d/e"), drop("/f"), drop("/a/d"), drop("/a/b"), drop("/c"), drop("/a")}, 0, dir(15)},
		{"taken anew as a file at the end", []deed{drop("/f"), newFile("/f")}, 6, file(11, "")},
		{"taken anew as a file at the end, with the text that was", []deed{drop("/f"), newFile("/f"), putText("/f", "far")}, 6, file(12, "far")},
		{"taken anew as a directory at the end", []deed{drop("/f"), newDir("/f")}, 6, dir(11)},
		{"taken anew as a file between others", []deed{drop("/a/b"), newFile("/a/b")}, 2, file(11, "")},
		{"taken anew as a directory between others", []deed{drop("/a/b"), newDir("/a/b")}, 2, dir(11)},
		{"taken anew as a directory with something in it", []deed{drop("/a/b"), newDir("/z"), newFile("/z/q")}, 2, dir(12, "q", 7)},
		{"taken anew elsewhere", []deed{drop("/a/b"), newFile("/a/d/b")}, 2, file(11, "")},
		{"taken anew in the place of a directory", []deed{drop("/a/d/e"), drop("/a/d"), newFile("/x")}, 4, file(12, "")},
		{"taken anew in the place of a directory, as another", []deed{drop("/a/d/e"), drop("/a/d"), newDir("/x")}, 4, dir(12)},
		{"taken anew and freed again", []deed{drop("/a/b"), newDir("/z"), drop("/z")}, 2, free()},
		{"taken anew twice", []deed{drop("/a/b"), newDir("/z"), drop("/z"), newFile("/y")}, 2, file(13, "")},
		{"a new place", []deed{newFile("/q")}, 7, file(10, "")},
		{"a new place that was freed", []deed{newFile("/q"), drop("/q")}, 7, free()},
		{"all places taken", []deed{newFile("/q"), newDir("/r"), newFile("/r/s")}, 9, file(12, "")},
		{"a file not turned in a directory that was", []deed{newFile("/a/q")}, 2, file(8, "hello")},
		{"a directory not turned in one that was", []deed{drop("/a/b")}, 4, dir(6, "e", 5)},
		{"what is in a directory that was moved", []deed{move("/a/d", "/d")}, 5, file(6, "")},
		{"a file turned in a directory that was not", []deed{putText("/a/d/e", "new")}, 5, file(10, "new")},
		{"the directory of a file that was turned", []deed{putText("/a/d/e", "new")}, 4, dir(6, "e", 5)},
		{"a directory turned in one that was not", []deed{newFile("/a/d/q")}, 4, dir(10, "e", 5, "q", 7)},
		{"a text that was there", []deed{putText("/f", "far")}, 6, file(10, "far")},
		{"a second name", []deed{link("/f", "/a/d/f")}, 4, dir(10, "e", 5, "f", 6)},
		{"one name of two dropped", []deed{link("/f", "/a/d/f"), drop("/f")}, 6, file(11, "far")},
		{"both names dropped", []deed{link("/f", "/a/d/f"), drop("/f"), drop("/a/d/f")}, 6, free()},
		{"moved there and back", []deed{move("/a", "/z"), move("/z", "/a")}, 1, dir(11, "b", 2, "d", 4)},
	}
}

// Of each story each choice of its turns is kept, one since the other: each beginning of that brings back the tree of its own turn, and so do two that were made one.
func TestBackStories(t *testing.T) {
	base := storyBase(t)
	for _, s := range stories() {
		all := turns(t, base, s.deeds...)
		last := all[len(all)-1]
		if !impl.NodeSame(last.Nodes[s.ino], s.n) {
			t.Fatalf("%s: place %d is not what the test says:\n%s", s.what, s.ino, listed(last))
		}
		for i, x := range all {
			for _, y := range all[i:] {
				wantBack(t, s.what, x, keptOf(t, y, x.Now), impl.BackFine, y)
			}
		}
		for chosen := 1; chosen < 1<<len(all); chosen++ {
			var trees []impl.Tree
			for i, x := range all {
				if chosen>>i&1 == 1 {
					trees = append(trees, x)
				}
			}
			list := chainOf(t, trees...)
			for i, x := range trees {
				wantBackAll(t, s.what, list[:i+1], impl.BackFine, x)
			}
			for i := 1; i < len(list); i++ {
				one, _ := impl.BackThen(list[i-1], list[i])
				made := slices.Concat(list[:i-1], []impl.Dump{one}, list[i+1:])
				wantBackAll(t, s.what, made, impl.BackFine, trees[len(trees)-1])
			}
		}
	}
}

// What is read from its text is brought back as what was written.
func TestBackOfWhatWasRead(t *testing.T) {
	for _, s := range stories() {
		all := turns(t, storyBase(t), s.deeds...)
		list := chainOf(t, all...)
		for i, d := range list {
			list[i], _ = impl.DumpRead(impl.DumpText(d))
		}
		wantBackAll(t, s.what, list, impl.BackFine, all[len(all)-1])
	}
}

// backBase is a tree at turn 5 with a place of each kind, over which things that are written out are brought back.
func backBase() impl.Tree {
	return tree(5, dir(5, "a", 1, "b", 2), dir(3, "c", 2, "d", 4), file(4, "hi"), free(), file(2, ""))
}

func TestBackOneWrittenOut(t *testing.T) {
	x := backBase()
	root, a, b, d := x.Nodes[0], x.Nodes[1], x.Nodes[2], x.Nodes[4]
	for _, c := range []struct {
		what string
		d    impl.Dump
		want impl.Tree
	}{
		{"no Items, since Date", dump(5, 5, "11101"), x},
		{"no Items, a later Date", dump(5, 9, "11101"), tree(9, root, a, b, free(), d)},
		{"no Items, the last Date", dump(5, 1000, "11101"), tree(1000, root, a, b, free(), d)},
		{"no Items, and free places more", dump(5, 5, "1110100000"), tree(5, root, a, b, free(), d, free(), free(), free(), free(), free())},
		{"a file", dump(5, 6, "11101", item(2, file(6, "new"))), tree(6, root, a, file(6, "new"), free(), d)},
		{"the last file", dump(5, 6, "11101", item(4, file(6, "new"))), tree(6, root, a, b, free(), file(6, "new"))},
		{"a file with the text that was", dump(5, 7, "11101", item(2, file(6, "hi"))), tree(7, root, a, file(6, "hi"), free(), d)},
		{"the root", dump(5, 6, "11101", item(0, dir(6, "b", 2, "home", 1))), tree(6, dir(6, "b", 2, "home", 1), a, b, free(), d)},
		{"a directory that was not turned at Date", dump(5, 9, "11101", item(1, dir(6, "d", 4))), tree(9, root, dir(6, "d", 4), b, free(), d)},
		{"all of them", dump(5, 6, "11101", item(0, dir(6, "x", 4)), item(1, dir(6)), item(2, file(6, "x")), item(4, dir(6, "y", 1, "z", 2))), tree(6, dir(6, "x", 4), dir(6), file(6, "x"), free(), dir(6, "y", 1, "z", 2))},
		{"a place that was free", dump(5, 6, "11111", item(1, dir(6, "c", 2, "d", 4, "e", 3)), item(3, file(6, "e"))), tree(6, root, dir(6, "c", 2, "d", 4, "e", 3), b, file(6, "e"), d)},
		{"a place behind all", dump(5, 6, "111011", item(0, dir(6, "a", 1, "b", 2, "q", 5)), item(5, dir(6))), tree(6, dir(6, "a", 1, "b", 2, "q", 5), a, b, free(), d, dir(6))},
		{"a place far behind all", dump(5, 6, "1110100001", item(0, dir(6, "a", 1, "b", 2, "q", 9)), item(9, file(6, "q"))), tree(6, dir(6, "a", 1, "b", 2, "q", 9), a, b, free(), d, free(), free(), free(), free(), file(6, "q"))},
		{"a file that is free now", dump(5, 6, "11100", item(1, dir(6, "c", 2))), tree(6, root, dir(6, "c", 2), b, free(), free())},
		{"a file between others that is free now", dump(5, 6, "11001", item(0, dir(6, "a", 1)), item(1, dir(6, "d", 4))), tree(6, dir(6, "a", 1), dir(6, "d", 4), free(), free(), d)},
		{"a directory that is free now", dump(5, 6, "10100", item(0, dir(6, "b", 2))), tree(6, dir(6, "b", 2), free(), b, free(), free())},
		{"a place less than the tree has", dump(5, 6, "1110", item(1, dir(6, "c", 2))), tree(6, root, dir(6, "c", 2), b, free())},
		{"two places less than the tree has", dump(5, 6, "111", item(1, dir(6, "c", 2))), tree(6, root, dir(6, "c", 2), b)},
		{"the root alone", dump(5, 6, "1", item(0, dir(6))), tree(6, dir(6))},
		{"a file in the place of a directory", dump(5, 6, "11100", item(1, file(6, "was"))), tree(6, root, file(6, "was"), b, free(), free())},
		{"a directory in the place of a file", dump(5, 6, "11101", item(4, dir(6))), tree(6, root, a, b, free(), dir(6))},
		{"since 0: the tree is not looked at", dump(0, 5, "11", item(0, dir(1, "z", 1)), item(1, file(2, "z"))), tree(5, dir(1, "z", 1), file(2, "z"))},
		{"since 0, with free places", dump(0, 5, "1010", item(0, dir(1, "z", 2)), item(2, dir(2))), tree(5, dir(1, "z", 2), free(), dir(2), free())},
	} {
		if !modelOk(c.want) {
			t.Fatalf("%s: the test's own tree is not ok:\n%s", c.what, listed(c.want))
		}
		wantBack(t, c.what, x, c.d, impl.BackFine, c.want)
		wantBack(t, c.what, hollow(x), hollowDump(c.d), impl.BackFine, c.want)
		if c.d.Since == 0 {
			wantBackAll(t, c.what, []impl.Dump{c.d}, impl.BackFine, c.want)
		} else {
			wantBackAll(t, c.what, []impl.Dump{keptOf(t, x, 0), c.d}, impl.BackFine, c.want)
		}
	}
}

// dumpsNotOk is things kept that are not ok, some of them since the turn of backBase.
func dumpsNotOk() []impl.Dump {
	return []impl.Dump{
		{}, dump(0, 1, ""), dump(0, 1, "0"), dump(0, 0, "1"), dump(-1, 5, "1"), dump(6, 5, "1"), dump(0, 1001, "1"), dump(1001, 1001, "1"), dump(0, 1, "11111111111"), dump(math.MinInt, 5, "1"), dump(5, math.MaxInt, "1"),
		dump(5, 5, ""), dump(5, 5, "01101"), dump(5, 4, "11101"), dump(5, 1001, "11101"), dump(5, 6, "11111111111"),
		dump(0, 5, "1", item(0, dir(6))), dump(5, 6, "11101", item(0, dir(5, "a", 1, "b", 2))), dump(5, 6, "11101", item(0, dir(7, "a", 1, "b", 2))), dump(5, 6, "11101", item(0, file(6, ""))),
		dump(5, 6, "11101", item(2, file(6, "A"))), dump(5, 6, "11101", item(2, file(6, "abcdefg"))), dump(5, 6, "11101", item(2, free())), dump(5, 6, "11101", item(3, file(6, ""))), dump(5, 6, "11101", item(5, file(6, ""))), dump(5, 6, "11101", item(-1, file(6, ""))),
		dump(5, 6, "11101", item(1, dir(6, "d", 4, "c", 2))), dump(5, 6, "11101", item(1, dir(6, "c", 3, "d", 4))), dump(5, 6, "11101", item(1, dir(6, "c", 0, "d", 4))), dump(5, 6, "11101", item(1, dir(6, "c", 5, "d", 4))),
		dump(5, 6, "11101", item(4, file(6, "")), item(2, file(6, ""))), dump(5, 6, "11101", item(2, file(6, "")), item(2, file(6, ""))),
	}
}

func TestBackOneForm(t *testing.T) {
	for i, d := range dumpsNotOk() {
		for _, x := range append(treesNotOk(), backBase(), houseTree(), impl.TreeNew(1)) {
			wantNotBack(t, fmt.Sprint("kept ", i), x, d, impl.BackForm)
		}
	}
	for _, x := range treesNotOk() {
		for _, since := range []int{1, 5, max(x.Now, 1), 1000} {
			since = min(since, 1000)
			wantNotBack(t, "no Items", x, dump(since, 1000, "1"), impl.BackForm)
			if since < 1000 {
				wantNotBack(t, "all Items", x, dump(since, 1000, "1", item(0, dir(1000))), impl.BackForm)
			}
		}
		wantBack(t, "since 0", x, dump(0, 3, "1", item(0, dir(2))), impl.BackFine, tree(3, dir(2)))
		wantNotBack(t, "since 0, of nothing", x, dump(0, 3, "1"), impl.BackBad)
	}
}

func TestBackOneOther(t *testing.T) {
	x := backBase()
	for _, since := range []int{1, 2, 4, 6, 7, 999, 1000} {
		wantNotBack(t, "no Items", x, dump(since, 1000, "11101"), impl.BackOther)
		if since < 1000 {
			wantNotBack(t, "all Items", x, dump(since, 1000, "1", item(0, dir(1000))), impl.BackOther)
		}
	}
	wantBack(t, "since Now", x, dump(5, 1000, "1", item(0, dir(1000))), impl.BackFine, tree(1000, dir(1000)))
	for _, d := range []impl.Dump{dump(1, 1, "1"), dump(4, 4, "11101"), dump(4, 5, "11101", item(0, dir(5, "a", 1, "b", 2))), dump(6, 6, "11101")} {
		wantNotBack(t, "of another turn", x, d, impl.BackOther)
	}
	// A tree that was turned, and looks as it did, is another one.
	y := turns(t, x, move("/a", "/q"), move("/q", "/a"))[2]
	d := keptOf(t, y, 5)
	wantBack(t, "over the tree of its turn", x, d, impl.BackFine, y)
	wantNotBack(t, "over a later tree", y, d, impl.BackOther)
	wantNotBack(t, "over an earlier tree", impl.TreeNew(4), d, impl.BackOther)
	last := bent(func(x *impl.Tree) { x.Now = 1000 })
	wantBack(t, "at the last turn", last, dump(1000, 1000, "1110101111"), impl.BackFine, last)
	wantNotBack(t, "ahead of the last turn", last, dump(999, 1000, "1110101111"), impl.BackOther)
}

func TestBackOneBad(t *testing.T) {
	x := backBase()
	for what, d := range map[string]impl.Dump{
		"a free place that is live":                     dump(5, 6, "11111"),
		"a free place that is live, and has a name":     dump(5, 6, "11111", item(1, dir(6, "c", 2, "d", 4, "e", 3))),
		"a place past the end that is live":             dump(5, 6, "111011"),
		"a place past the end that is live, and named":  dump(5, 6, "111011", item(0, dir(6, "a", 1, "b", 2, "q", 5))),
		"the last of ten that is live":                  dump(5, 6, "1110100001"),
		"a root of which there is nothing":              dump(0, 6, "1"),
		"since 0, though the tree has it all":           dump(0, 6, "11101"),
		"since 0, though the tree has a file":           dump(0, 6, "111", item(0, dir(6, "a", 1, "b", 2)), item(1, dir(6))),
		"since 0, though the tree has the root":         dump(0, 6, "11", item(1, file(6, ""))),
		"a file that is free now, and has names":        dump(5, 6, "11001"),
		"a file that is free now, and has one name":     dump(5, 6, "11001", item(0, dir(6, "a", 1))),
		"a directory that is free now, and has a name":  dump(5, 6, "10101"),
		"what was in a directory that is free now":      dump(5, 6, "10101", item(0, dir(6, "b", 2))),
		"a place less, which has a name":                dump(5, 6, "1110"),
		"all places less, which have names":             dump(5, 6, "1"),
		"a file with no name any more":                  dump(5, 6, "11101", item(1, dir(6, "c", 2))),
		"a file that was never named":                   dump(5, 6, "11111", item(3, file(6, ""))),
		"a directory with no name any more":             dump(5, 6, "11101", item(0, dir(6, "b", 2))),
		"a directory with two names":                    dump(5, 6, "11101", item(0, dir(6, "a", 1, "b", 2, "c", 1))),
		"a directory with two names, taken anew":        dump(5, 6, "11101", item(2, dir(6))),
		"a directory in itself":                         dump(5, 6, "11101", item(0, dir(6, "b", 2)), item(1, dir(6, "c", 1, "d", 4))),
		"directories in each other":                     dump(5, 6, "11101", item(0, dir(6, "b", 2)), item(1, dir(6, "c", 2, "d", 4)), item(4, dir(6, "a", 1))),
		"what was in a directory that is a file now":    dump(5, 6, "11101", item(1, file(6, ""))),
		"a root with no names, and places that are not": dump(5, 6, "11101", item(0, dir(6))),
	} {
		if !modelDumpOk(d) {
			t.Fatalf("%s: what the test keeps is not ok:\n%s", what, listedDump(d))
		}
		wantNotBack(t, what, x, d, impl.BackBad)
		wantNotBack(t, what, hollow(x), hollowDump(d), impl.BackBad)
	}
}

// Each of two codes that fit is looked for in its turn: BackForm, BackOther, BackBad.
func TestBackOneOrderOfCodes(t *testing.T) {
	x, notOk := backBase(), bent(func(x *impl.Tree) { x.Nodes[9].At = 10 })
	wantNotBack(t, "kept is not ok, and of another turn", x, dump(4, 6, "01101"), impl.BackForm)
	wantNotBack(t, "kept is not ok, and there is nothing", x, dump(5, 6, "11111", item(0, file(6, ""))), impl.BackForm)
	wantNotBack(t, "kept is not ok, of another turn, and there is nothing", x, dump(4, 6, "11111", item(0, file(6, ""))), impl.BackForm)
	wantNotBack(t, "both are not ok", notOk, dump(9, 8, "1"), impl.BackForm)
	wantNotBack(t, "the tree is not ok, and of another turn", notOk, dump(8, 9, "1110101111"), impl.BackForm)
	wantNotBack(t, "the tree is not ok, and there is nothing", notOk, dump(9, 9, "1111111111"), impl.BackForm)
	wantNotBack(t, "the tree is not ok, of another turn, and there is nothing", notOk, dump(8, 9, "1111111111"), impl.BackForm)
	wantNotBack(t, "of another turn, and there is nothing", x, dump(4, 6, "11111"), impl.BackOther)
	wantNotBack(t, "of another turn, and no tree comes", x, dump(4, 6, "11101", item(0, dir(6))), impl.BackOther)
	wantNotBack(t, "there is nothing", x, dump(5, 6, "11111"), impl.BackBad)
	wantNotBack(t, "kept is not ok, since 0", notOk, dump(0, 6, "01"), impl.BackForm)
	wantNotBack(t, "there is nothing, since 0", notOk, dump(0, 6, "11"), impl.BackBad)
	// Nothing is of Now 0, and so of the turn since which all is kept: that makes no tree of it.
	wantNotBack(t, "over nothing, since 1", impl.Tree{}, dump(1, 6, "1", item(0, dir(6))), impl.BackForm)
}

// fiveTurns is five trees, and what is kept of each since the one ahead.
func fiveTurns(t *testing.T) ([]impl.Tree, []impl.Dump) {
	t.Helper()
	all := turns(t, impl.TreeNew(1), newDir("/a"), newFile("/a/b"), putText("/a/b", "hello"), newFile("/c"), link("/a/b", "/d"), drop("/c"), newDir("/c"), move("/a/b", "/c/b"), drop("/d"))
	trees := []impl.Tree{all[2], all[4], all[5], all[7], all[9]}
	return trees, chainOf(t, trees...)
}

func TestBackAllLists(t *testing.T) {
	trees, list := fiveTurns(t)
	wantBackAll(t, "none", nil, impl.BackForm, impl.Tree{})
	wantBackAll(t, "an empty list", []impl.Dump{}, impl.BackForm, impl.Tree{})
	wantBackAll(t, "an empty list of many", list[:0], impl.BackForm, impl.Tree{})
	for i, x := range trees {
		wantBackAll(t, fmt.Sprint("the first ", i+1), list[:i+1], impl.BackFine, x)
		for j := i + 1; j < len(list); j++ {
			wantBackAll(t, "a first one since a turn", list[i+1:j+1], impl.BackForm, impl.Tree{})
		}
		for _, y := range trees {
			wantBackAll(t, "one since 0 behind others", append(slices.Clone(list[:i+1]), keptOf(t, y, 0)), impl.BackFine, y)
		}
		again := keptOf(t, x, x.Now)
		wantBackAll(t, "one with no Items at the end", append(slices.Clone(list[:i+1]), again, again, again), impl.BackFine, x)
		wantBackAll(t, "one with no Items within", slices.Insert(slices.Clone(list), i+1, again), impl.BackFine, trees[4])
		wantBackAll(t, "all since 0 within", slices.Insert(slices.Clone(list), i+1, keptOf(t, x, 0)), impl.BackFine, trees[4])
		wantBackAll(t, "others ahead", slices.Concat(chainOf(t, houseTree()), list[:i+1]), impl.BackFine, x)
		if i > 0 {
			wantBackAll(t, "one lacks", slices.Delete(slices.Clone(list), i-1, i), []int{0, impl.BackForm, impl.BackOther, impl.BackOther, impl.BackOther}[i], impl.Tree{})
			wantBackAll(t, "one twice", slices.Insert(slices.Clone(list), i, list[i]), impl.BackOther, impl.Tree{})
			swapped := slices.Clone(list)
			swapped[i-1], swapped[i] = swapped[i], swapped[i-1]
			wantBackAll(t, "two in the other order", swapped, []int{0, impl.BackForm, impl.BackOther, impl.BackOther, impl.BackOther}[i], impl.Tree{})
		}
	}
	for _, since := range []int{-1, 1, 5, math.MinInt, math.MaxInt} {
		wantBackAll(t, "a first one that is not since 0", []impl.Dump{dump(since, 5, "1", item(0, dir(5)))}, impl.BackForm, impl.Tree{})
	}
	wantBackAll(t, "a first one since a turn, and one since 0 behind it", []impl.Dump{list[1], list[0]}, impl.BackForm, impl.Tree{})
}

// Each code is told of each place of a list, whatever stands behind it.
func TestBackAllEachCodeAtEachPlace(t *testing.T) {
	_, list := fiveTurns(t)
	for i := range list {
		// A place more is live, and nothing is known of it; a file has no name.
		more, lost := cloneDump(list[i]), cloneDump(list[i])
		more.Live = append(more.Live, true)
		lost.Live, lost.Items = []bool{true, true}, []impl.Item{item(0, dir(lost.Date)), item(1, file(lost.Date, ""))}
		faults := map[int][]impl.Dump{impl.BackForm: dumpsNotOk(), impl.BackBad: {more, lost, dump(0, 1, "1")}}
		// The first is since 0, or it is BackForm: it is of no other turn.
		if i > 0 {
			faults[impl.BackOther] = []impl.Dump{dump(1, 1000, "1"), dump(1000, 1000, "1"), dump(list[i].Since-1, list[i].Date, "11111"), dump(list[i].Since+1, 1000, "1", item(0, dir(1000)))}
		}
		if i > 1 {
			faults[impl.BackOther] = append(faults[impl.BackOther], list[i-1])
		}
		for code, all := range faults {
			for _, d := range all {
				bad := slices.Clone(list)
				bad[i] = d
				what := fmt.Sprintf("code %d at place %d", code, i)
				wantBackAll(t, what, bad, code, impl.Tree{})
				wantBackAll(t, what+", the last", bad[:i+1], code, impl.Tree{})
				wantNoPick(t, bad, nil)
				for _, behind := range []impl.Dump{{}, dump(1, 1, "1"), dump(0, 1, "1"), dump(0, 1, "1", item(0, dir(1)))} {
					wantBackAll(t, what+", another behind it", append(slices.Clone(bad[:i+1]), behind), code, impl.Tree{})
				}
			}
		}
	}
}

func TestBackAllVeryMany(t *testing.T) {
	x := houseTree()
	list := []impl.Dump{keptOf(t, x, 0)}
	for range 5000 {
		list = append(list, keptOf(t, x, 9))
	}
	wantBackAll(t, "very many with no Items", list, impl.BackFine, x)
	wide := wideTree(17000, "wide")
	all := turns(t, wide, link("/aaaa", "/b"), drop("/abcd"), putText("/b", "x"))
	wantBackAll(t, "very many names", chainOf(t, all...), impl.BackFine, all[3])
	one, ok := impl.BackThen(keptOf(t, all[1], 1), keptOf(t, all[3], 2))
	if !ok || !impl.DumpSame(one, keptOf(t, all[3], 1)) {
		t.Errorf("BackThen of very many names = %v", ok)
	}
}

func TestBackThenWrittenOut(t *testing.T) {
	for _, c := range []struct {
		what       string
		a, b, want impl.Dump
	}{
		{"an Item in neither", dump(3, 5, "111"), dump(5, 7, "111"), dump(3, 7, "111")},
		{"no Items, of one turn", dump(5, 5, "1"), dump(5, 5, "1"), dump(5, 5, "1")},
		{"an Item in both", dump(3, 5, "11", item(1, file(4, "one"))), dump(5, 7, "11", item(1, file(6, "two"))), dump(3, 7, "11", item(1, file(6, "two")))},
		{"an Item in both, of another kind", dump(3, 5, "11", item(1, file(4, "one"))), dump(5, 7, "11", item(1, dir(6))), dump(3, 7, "11", item(1, dir(6)))},
		{"an Item in the first", dump(3, 5, "11", item(1, file(4, "one"))), dump(5, 7, "11"), dump(3, 7, "11", item(1, file(4, "one")))},
		{"an Item in the second", dump(3, 5, "11"), dump(5, 7, "11", item(1, file(6, "two"))), dump(3, 7, "11", item(1, file(6, "two")))},
		{"an Item at a place that is not live any more", dump(3, 5, "111", item(1, file(4, "one")), item(2, file(5, "far"))), dump(5, 7, "101"), dump(3, 7, "101", item(2, file(5, "far")))},
		{"a last Item at a place that is not live any more", dump(3, 5, "111", item(1, file(4, "one")), item(2, file(5, "far"))), dump(5, 7, "110"), dump(3, 7, "110", item(1, file(4, "one")))},
		{"an Item at a place that there is not any more", dump(3, 5, "111", item(1, file(4, "one")), item(2, file(5, "far"))), dump(5, 7, "11"), dump(3, 7, "11", item(1, file(4, "one")))},
		{"all Items at places that there are not any more", dump(3, 5, "111", item(1, file(4, "one")), item(2, file(5, "far"))), dump(5, 7, "1"), dump(3, 7, "1")},
		{"an Item at a place that there was not", dump(3, 5, "1"), dump(5, 7, "1111111111", item(9, file(6, "two"))), dump(3, 7, "1111111111", item(9, file(6, "two")))},
		{"an Item at a place that was not live", dump(3, 5, "101"), dump(5, 7, "111", item(1, file(6, "two"))), dump(3, 7, "111", item(1, file(6, "two")))},
		{"Items in turns", dump(0, 5, "11111", item(0, dir(1)), item(2, file(2, "c")), item(4, file(3, "e"))), dump(5, 9, "11111", item(1, file(6, "b")), item(3, file(7, "d"))), dump(0, 9, "11111", item(0, dir(1)), item(1, file(6, "b")), item(2, file(2, "c")), item(3, file(7, "d")), item(4, file(3, "e")))},
		{"Items of the second ahead", dump(0, 5, "1111", item(2, file(2, "c")), item(3, file(3, "d"))), dump(5, 9, "1111", item(0, dir(6)), item(1, file(7, "b"))), dump(0, 9, "1111", item(0, dir(6)), item(1, file(7, "b")), item(2, file(2, "c")), item(3, file(3, "d")))},
		{"a directory whose Kid is live", dump(0, 5, "11", item(0, dir(1, "a", 1))), dump(5, 9, "11"), dump(0, 9, "11", item(0, dir(1, "a", 1)))},
		{"a directory whose Kid was freed, and which was turned", dump(0, 5, "11", item(0, dir(1, "a", 1))), dump(5, 9, "10", item(0, dir(6))), dump(0, 9, "10", item(0, dir(6)))},
		{"a directory whose Kid was freed, and which was, too", dump(0, 5, "111", item(1, dir(1, "a", 2))), dump(5, 9, "100"), dump(0, 9, "100")},
		{"what makes no tree", dump(0, 5, "11", item(0, dir(1, "a", 1, "b", 1)), item(1, dir(1))), dump(5, 5, "11"), dump(0, 5, "11", item(0, dir(1, "a", 1, "b", 1)), item(1, dir(1)))},
		{"the first turn and the last", dump(0, 1, "1", item(0, dir(1))), dump(1, 1000, "11", item(1, file(1000, "z"))), dump(0, 1000, "11", item(0, dir(1)), item(1, file(1000, "z")))},
	} {
		wantThen(t, c.what, c.a, c.b, c.want)
		wantThen(t, c.what, hollowDump(c.a), hollowDump(c.b), c.want)
	}
}

func TestBackThenRefused(t *testing.T) {
	a, b := dump(3, 5, "11", item(1, file(4, "one"))), dump(5, 7, "11", item(1, file(6, "two")))
	for _, bad := range dumpsNotOk() {
		wantNoThen(t, "the first is not ok", bad, dump(max(min(bad.Date, 1000), 0), 1000, "1"))
		wantNoThen(t, "the second is not ok", dump(0, max(min(bad.Since, 1000), 1), "1"), bad)
		wantNoThen(t, "both are not ok", bad, bad)
	}
	wantNoThen(t, "in the other order", b, a)
	wantNoThen(t, "one twice", a, a)
	for _, since := range []int{0, 1, 3, 4, 6, 7, 9} {
		wantNoThen(t, "the second is since another turn", a, dump(since, 9, "11"))
	}
	for _, date := range []int{3, 4, 6, 1000} {
		wantNoThen(t, "the first is till another turn", dump(3, date, "11"), b)
	}
	wantNoThen(t, "both since 0", dump(0, 5, "1", item(0, dir(5))), dump(0, 5, "1", item(0, dir(5))))
	for _, live := range []string{"1", "10", "100", "101"} {
		wantNoThen(t, "a directory of the first has a name of a place that is not live", dump(0, 5, "111", item(0, dir(1, "a", 1)), item(1, file(1, ""))), dump(5, 9, live))
	}
	wantNoThen(t, "a last name of a place that is not live", dump(0, 5, "1111", item(1, dir(1, "a", 2, "b", 3))), dump(5, 9, "1110"))
}

// What two are that are made one is what would have been kept since the first turn.
func TestBackThenIsWhatWouldHaveBeenKept(t *testing.T) {
	for _, s := range stories() {
		all := turns(t, storyBase(t), s.deeds...)
		for i, x := range all {
			for _, y := range all[i:] {
				for _, since := range []int{0, 1, 5, 8, 9, x.Now} {
					wantThen(t, s.what, keptOf(t, x, since), keptOf(t, y, x.Now), keptOf(t, y, since))
				}
				list := []impl.Dump{keptOf(t, x, 0), keptOf(t, y, x.Now)}
				one, _ := impl.BackThen(list[0], list[1])
				wantBackAll(t, s.what, list, impl.BackFine, y)
				wantBackAll(t, s.what, []impl.Dump{one}, impl.BackFine, y)
			}
		}
	}
}

// Three that follow each other are one thing, in whichever order they are made it.
func TestBackThenOfThree(t *testing.T) {
	trees, list := fiveTurns(t)
	for i := range list {
		for j := i + 1; j < len(list); j++ {
			for k := j + 1; k < len(list); k++ {
				since := 0
				if i > 0 {
					since = trees[i-1].Now
				}
				a, b, c := keptOf(t, trees[i], since), keptOf(t, trees[j], trees[i].Now), keptOf(t, trees[k], trees[j].Now)
				want := keptOf(t, trees[k], since)
				ab, _ := impl.BackThen(a, b)
				bc, _ := impl.BackThen(b, c)
				wantThen(t, "the first two first", ab, c, want)
				wantThen(t, "the last two first", a, bc, want)
				wantNoThen(t, "one lacks", a, c)
				wantNoThen(t, "one twice", ab, bc)
			}
		}
	}
}

func TestBackPick(t *testing.T) {
	house := houseTree()
	later := turns(t, house, putText("/b", "thrice"), drop("/a/ab"), newFile("/a/new"), link("/a/new", "/home/new"))[4]
	for _, c := range []struct {
		list []impl.Dump
		ways map[string]impl.Node
	}{
		{chainOf(t, house), map[string]impl.Node{
			"/": house.Nodes[0], "/a": house.Nodes[1], "/a/ab": dir(4), "/a/x": file(1, ""), "/home/x": file(1, ""), "/a/zzzz": file(2, "z"), "/b": file(5, "twice"), "/c": file(5, "twice"), "/home": dir(9, "deep", 9, "x", 6), "/home/deep": dir(8, "b", 4), "/home/deep/b": file(5, "twice"),
		}},
		{chainOf(t, house, later), map[string]impl.Node{
			"/": dir(9, "a", 1, "b", 4, "c", 4, "home", 7), "/a": dir(12, "new", 2, "x", 6, "zzzz", 8), "/a/new": file(13, ""), "/home/new": file(13, ""), "/b": file(10, "thrice"), "/c": file(10, "thrice"), "/home/deep/b": file(10, "thrice"), "/a/x": file(1, ""), "/home": dir(13, "deep", 9, "new", 2, "x", 6),
		}},
		{chainOf(t, impl.TreeNew(7)), map[string]impl.Node{"/": dir(7)}},
	} {
		for text, want := range c.ways {
			wantPick(t, c.list, namesOf(text), want)
		}
		wantPick(t, c.list, []string{}, c.ways["/"])
		for _, p := range [][]string{
			{"q"}, {"a", "q"}, {"b", "b"}, {"home", "deep", "b", "b"}, {"x"}, {"aa"}, {"deep"}, {"a", "a"}, {"q", "q", "q", "q", "q"},
			{""}, {"A"}, {"abcde"}, {"a", ""}, {"", "a"}, {"a/ab"}, {"/a"}, {"/"}, {"home", "deep", "b", "b", "b", "b"}, {"a", "x", "\xff"}, make([]string, 6), {strings.Repeat("a", 100000)},
		} {
			wantNoPick(t, c.list, p)
		}
	}
	wantNoPick(t, chainOf(t, house, later), namesOf("/a/ab"))
	wantNoPick(t, chainOf(t, house), namesOf("/a/new"))
}

// A way of five names leads to the fifth of ten directories within each other; the others have no way.
func TestBackPickDeep(t *testing.T) {
	list := chainOf(t, chain(10))
	for size := range 9 {
		p := slices.Repeat([]string{"d"}, size)
		if size <= 5 {
			wantPick(t, list, p, dir(1, "d", size+1))
		} else {
			wantNoPick(t, list, p)
		}
	}
}

func TestBackPickOfWhatIsNotBroughtBack(t *testing.T) {
	_, list := fiveTurns(t)
	for _, bad := range [][]impl.Dump{nil, {}, list[1:], list[4:], {list[0], list[2]}, {list[0], list[0], list[1], list[1]}, {list[0], {}}, {{}, list[0]}, {dump(0, 1, "1")}, {list[0], dump(0, 1, "1")}, {dump(0, 1, "11", item(0, dir(1)))}} {
		for _, p := range [][]string{nil, {}, {"a"}, {"a", "b"}, {"c"}, {"A"}, {"q"}} {
			wantNoPick(t, bad, p)
		}
	}
}

// memoryLists is lists that end with each code.
func memoryLists(t *testing.T) [][]impl.Dump {
	t.Helper()
	_, list := fiveTurns(t)
	house := houseTree()
	later := turns(t, house, putText("/b", "thrice"), drop("/a/ab"), newFile("/a/new"), move("/home", "/a/home"))
	return [][]impl.Dump{
		nil, list[:1], list[:2], list, list[1:], {list[0], list[2]}, {list[0], {}}, {list[0], dump(0, 1, "1")}, {list[0], list[1], list[0]},
		chainOf(t, house), chainOf(t, house, house), chainOf(t, append([]impl.Tree{house}, later...)...), chainOf(t, house, later[3]), chainOf(t, flat(9)), chainOf(t, chain(10)),
	}
}

// roomyDumps is a list with spare room, filled, behind it and behind each list in it; room tells all of it.
func roomyDumps(list []impl.Dump) (own []impl.Dump, room func() string) {
	var rooms []func() string
	for _, d := range append(slices.Clone(list), keptBase(), dump(0, 1, "1")) {
		e, roomOfE := roomyDump(d)
		own, rooms = append(own, e), append(rooms, roomOfE)
	}
	all := own
	own = own[:len(list)]
	room = func() string {
		told := listedDumps(all)
		for _, roomOfOne := range rooms {
			told += roomOfOne()
		}
		return told
	}
	return own, room
}

// dumpsSpans is where a list of things kept and all lists and texts in it lie.
func dumpsSpans(list []impl.Dump) []span {
	all := []span{spanOf("the list", list)}
	for i, d := range list {
		all = append(all, dumpSpans(fmt.Sprint("kept ", i, ", its"), d)...)
	}
	return all
}

// treeSpans is where the lists and texts of a tree lie, those in its spare room too.
func treeSpans(what string, x impl.Tree) []span {
	all := listSpans(what, x)
	for _, n := range x.Nodes[:cap(x.Nodes)] {
		all = append(all, textSpan(what+" text", n.Text))
		all = append(all, textSpans(what+" name", n.Names[:cap(n.Names)])...)
	}
	return all
}

func TestBackAnswersAreNewMemory(t *testing.T) {
	for _, given := range memoryLists(t) {
		list, _ := roomyDumps(given)
		spans := dumpsSpans(list)
		x, _ := impl.BackAll(list)
		wantApart(t, treeSpans("the answer's", x), spans)
		for _, p := range [][]string{nil, {"a"}, {"b"}, {"a", "b"}, {"home"}, {"d", "d"}, {"q"}} {
			own, _ := withRoom(p...)
			n, _ := impl.BackPick(list, own)
			wantApart(t, treeSpans("the place's", tree(1, n)), append(spans, spanOf("the way", own)))
		}
		for i := 1; i < len(list); i++ {
			one, _ := impl.BackThen(list[i-1], list[i])
			wantApart(t, dumpSpans("the answer's", one), spans)
			over, _ := impl.BackAll(list[:i])
			over, _ = ownTexts(over, deed{})
			over, _ = roomy(over)
			got, _ := impl.BackOne(over, list[i])
			wantApart(t, treeSpans("the answer's", got), append(treeSpans("the tree's", over), spans...))
		}
	}
}

// wantEmptyRoom asks that nothing stands in the spare room of a tree.
func wantEmptyRoom(t *testing.T, x impl.Tree) {
	t.Helper()
	for _, n := range x.Nodes[len(x.Nodes):cap(x.Nodes)] {
		if !impl.NodeSame(n, free()) {
			t.Errorf("the spare room has %v", n)
		}
	}
	for _, n := range x.Nodes {
		if strings.Join(n.Names[len(n.Names):cap(n.Names)], "") != "" || slices.Max(append(n.Kids[len(n.Kids):cap(n.Kids)], 0)) != 0 {
			t.Errorf("the spare room has %q and %v", n.Names[:cap(n.Names)], n.Kids[:cap(n.Kids)])
		}
	}
}

// What stands in the spare room of an answer is nothing of what was given.
func TestBackSpareRoomIsEmpty(t *testing.T) {
	for _, given := range memoryLists(t) {
		list, _ := roomyDumps(given)
		x, _ := impl.BackAll(list)
		wantEmptyRoom(t, x)
		for _, p := range [][]string{nil, {"a"}, {"home"}} {
			n, _ := impl.BackPick(list, p)
			wantEmptyRoom(t, tree(1, n))
		}
		for i := 1; i < len(list); i++ {
			one, _ := impl.BackThen(list[i-1], list[i])
			for _, of := range one.Items[len(one.Items):cap(one.Items)] {
				if of.Ino != 0 || !impl.NodeSame(of.Node, free()) {
					t.Errorf("the spare room has %v", of)
				}
			}
			for _, of := range one.Items {
				wantEmptyRoom(t, tree(1, of.Node))
			}
			if slices.Contains(one.Live[len(one.Live):cap(one.Live)], true) {
				t.Errorf("the spare room of Live is %v", one.Live[:cap(one.Live)])
			}
		}
	}
}

func TestBackWritesIntoNoArgument(t *testing.T) {
	for _, given := range memoryLists(t) {
		list, room := roomyDumps(given)
		p, allOfP := withRoom("a", "b")
		was, wasP := room(), slices.Clone(allOfP)
		wantAsItWas := func(what string) {
			t.Helper()
			if room() != was || !slices.Equal(allOfP, wasP) {
				t.Fatalf("%s wrote into what was given:\n%swas\n%s", what, room(), was)
			}
		}
		x, _ := impl.BackAll(list)
		wantAsItWas("BackAll")
		overwrite(x)
		wantAsItWas("who has the answer of BackAll")
		n, _ := impl.BackPick(list, p)
		wantAsItWas("BackPick")
		overwrite(tree(1, n))
		wantAsItWas("who has the answer of BackPick")
		for i := 1; i < len(list); i++ {
			one, _ := impl.BackThen(list[i-1], list[i])
			wantAsItWas("BackThen")
			overwriteDump(one)
			wantAsItWas("who has the answer of BackThen")
			over, _ := impl.BackAll(list[:i])
			over, roomOfOver := roomy(over)
			wasOver := roomOfOver()
			got, _ := impl.BackOne(over, list[i])
			wantAsItWas("BackOne")
			overwrite(got)
			wantAsItWas("who has the answer of BackOne")
			if roomOfOver() != wasOver {
				t.Fatalf("BackOne wrote into the tree, or its answer shares memory with it:\n%s", wasOver)
			}
		}
	}
}

// What is written into one place of an answer, or behind its end, shows in no other one.
func TestBackPartsAreApart(t *testing.T) {
	for _, list := range memoryLists(t) {
		want, _ := impl.BackAll(list)
		for ino := range want.Nodes {
			got, _ := impl.BackAll(list)
			overwrite(tree(1, got.Nodes[ino]))
			got.Nodes[ino].Names, got.Nodes[ino].Kids = append(got.Nodes[ino].Names, "bent"), append(got.Nodes[ino].Kids, 99)
			got.Nodes[ino] = want.Nodes[ino]
			if listed(got) != listed(want) {
				t.Errorf("once place %d was written into, it is\n%swant\n%s", ino, listed(got), listed(want))
			}
		}
		if len(list) < 2 {
			continue
		}
		one, _ := impl.BackThen(list[0], list[1])
		for i := range one.Items {
			got, _ := impl.BackThen(list[0], list[1])
			overwrite(tree(1, got.Items[i].Node))
			got.Items[i] = one.Items[i]
			if listedDump(got) != listedDump(one) {
				t.Errorf("once Item %d was written into, it is\n%swant\n%s", i, listedDump(got), listedDump(one))
			}
		}
	}
}

// No call leaves anything for the next one, whatever becomes of its answer, and none hangs on empty lists.
func TestBackKeepsNothing(t *testing.T) {
	told := func(list []impl.Dump) string {
		x, code := impl.BackAll(list)
		n, ok := impl.BackPick(list, []string{"a"})
		said := fmt.Sprint(listed(x), code, listed(tree(1, n)), ok)
		for i := 1; i < len(list); i++ {
			one, ok := impl.BackThen(list[i-1], list[i])
			y, code := impl.BackOne(x, list[i])
			said += fmt.Sprint(listedDump(one), ok, listed(y), code)
			overwriteDump(one)
			overwrite(y)
		}
		overwrite(x)
		overwrite(tree(1, n))
		return said
	}
	all := memoryLists(t)
	for _, list := range all {
		first := told(list)
		for _, other := range all {
			told(other)
		}
		if second := told(list); first != second {
			t.Errorf("two answers are\n%s\n%s", first, second)
		}
		other := []impl.Dump{}
		for _, d := range list {
			other = append(other, hollowDump(d))
		}
		if third := told(other); first != third {
			t.Errorf("the answer hangs on empty lists:\n%s\n%s", first, third)
		}
	}
}
