package tests

import (
	"fmt"
	"slices"
	"strings"
	"testing"

	"loop.example/cellarage/impl"
)

// looked is a tree, the lines of its look, and how many files, directories and letters it has.
type looked struct {
	what  string
	x     impl.Tree
	lines []string
	many  [3]int
}

// many is the three numbers of LookMany.
func many(x impl.Tree) [3]int {
	files, dirs, letters := impl.LookMany(x)
	return [3]int{files, dirs, letters}
}

// wantLooked asks all five functions for the whole of what they answer of a tree.
func wantLooked(t *testing.T, c looked) {
	t.Helper()
	if !modelOk(c.x) {
		t.Fatalf("%s: the test's own tree is not ok:\n%s", c.what, listed(c.x))
	}
	if got, want := impl.LookText(c.x), strings.Join(c.lines, "\n")+"\n"; got != want {
		t.Errorf("%s: LookText is\n%swant\n%s", c.what, got, want)
	}
	var ways [][]string
	for _, line := range c.lines {
		way, _, _ := strings.Cut(line, " ")
		ways = append(ways, namesOf(way))
	}
	if got := impl.LookAll(c.x); !slices.EqualFunc(got, ways, slices.Equal) {
		t.Errorf("%s: LookAll = %q; want %q", c.what, got, ways)
	}
	if got := many(c.x); got != c.many {
		t.Errorf("%s: LookMany = %v; want %v", c.what, got, c.many)
	}
	wantSame(t, c.what, c.x, cloneTree(c.x))
}

// wantSame asks that two trees look the same, both ways round.
func wantSame(t *testing.T, what string, a, b impl.Tree) {
	t.Helper()
	wantDiff(t, what, a, b, nil, nil)
}

// wantDiff asks where two trees do not look the same, both ways round.
func wantDiff(t *testing.T, what string, a, b impl.Tree, diff, back []string) {
	t.Helper()
	if !modelOk(a) || !modelOk(b) {
		t.Fatalf("%s: a tree of the test's own is not ok:\n%s%s", what, listed(a), listed(b))
	}
	if got := impl.LookDiff(a, b); !slices.Equal(got, diff) {
		t.Errorf("%s: LookDiff = %q; want %q", what, got, diff)
	}
	if got := impl.LookDiff(b, a); !slices.Equal(got, back) {
		t.Errorf("%s: LookDiff the other way round = %q; want %q", what, got, back)
	}
	same := len(diff) == 0
	if got := impl.LookSame(a, b); got != same {
		t.Errorf("%s: LookSame = %v; want %v", what, got, same)
	}
	if got := impl.LookSame(b, a); got != same {
		t.Errorf("%s: LookSame the other way round = %v; want %v", what, got, same)
	}
	if got := impl.LookText(a) == impl.LookText(b); got != same {
		t.Errorf("%s: that LookText is the same is %v; want %v", what, got, same)
	}
}

func houseLooked() looked {
	return looked{"house", houseTree(), []string{
		"/ dir", "/a dir", "/a/ab dir", "/a/x ''", "/a/zzzz 'z'", "/b 'twice'", "/c as /b",
		"/home dir", "/home/deep dir", "/home/deep/b as /b", "/home/x as /a/x",
	}, [3]int{3, 5, 6}}
}

func TestLookOrdinary(t *testing.T) {
	wantLooked(t, houseLooked())
	wantLooked(t, looked{"a root alone", impl.TreeNew(1), []string{"/ dir"}, [3]int{0, 1, 0}})
	wantLooked(t, looked{"a root alone, at the last turn", impl.TreeNew(1000), []string{"/ dir"}, [3]int{0, 1, 0}})
	wantLooked(t, looked{"a root and nine free places", without(flat(9), 1, 2, 3, 4, 5, 6, 7, 8, 9), []string{"/ dir"}, [3]int{0, 1, 0}})
	wantLooked(t, looked{"an empty file", tree(1, dir(1, "a", 1), file(1, "")), []string{"/ dir", "/a ''"}, [3]int{1, 1, 0}})
	wantLooked(t, looked{"a full file", tree(1, dir(1, "abcd", 1), file(1, "zzzzzz")), []string{"/ dir", "/abcd 'zzzzzz'"}, [3]int{1, 1, 6}})
	wantLooked(t, looked{"an empty directory", tree(1, dir(1, "zzzz", 1), dir(1)), []string{"/ dir", "/zzzz dir"}, [3]int{0, 2, 0}})
	wantLooked(t, looked{"free places between", without(flat(5), 4, 2), []string{"/ dir", "/a 't'", "/c 't'", "/e 't'"}, [3]int{3, 1, 3}})
	wantLooked(t, looked{"all places", flat(9), []string{
		"/ dir", "/a 't'", "/b 't'", "/c 't'", "/d 't'", "/e 't'", "/f 't'", "/g 't'", "/h 't'", "/i 't'",
	}, [3]int{9, 1, 9}})
	wantLooked(t, looked{"texts that read as what is no text", tree(1, dir(1, "a", 1, "as", 2, "dir", 3), file(1, "dir"), file(1, "as"), dir(1, "as", 1)), []string{
		"/ dir", "/a 'dir'", "/as 'as'", "/dir dir", "/dir/as as /a",
	}, [3]int{2, 2, 5}})
}

func TestLookSample(t *testing.T) {
	x := tree(5, dir(5, "a", 1, "b", 2), dir(3, "c", 2, "d", 4), file(4, "hi"), free(), file(2, ""))
	wantLooked(t, looked{"sample", x, []string{"/ dir", "/a dir", "/a/c 'hi'", "/a/d ''", "/b as /a/c"}, [3]int{2, 2, 2}})
}

// Names say the order, not places; and what is within a directory comes ahead of the next name beside it.
func TestLookOrder(t *testing.T) {
	wantLooked(t, looked{"places the other way round", tree(1,
		dir(1, "a", 5, "aa", 4, "ab", 3, "b", 2, "ba", 1),
		file(1, "five"), dir(1, "z", 6), file(1, "three"), dir(1, "y", 7), dir(1, "x", 9, "z", 8),
		file(1, "six"), file(1, "seven"), dir(1, "a", 6, "zz", 7), dir(1)),
		[]string{
			"/ dir", "/a dir", "/a/x dir", "/a/z dir", "/a/z/a 'six'", "/a/z/zz 'seven'", "/aa dir", "/aa/y as /a/z/zz",
			"/ab 'three'", "/b dir", "/b/z as /a/z/a", "/ba 'five'",
		}, [3]int{4, 6, 17}})
	wantLooked(t, looked{"a directory behind the files beside it", tree(1, dir(1, "a", 1, "b", 2, "c", 3), file(1, "a"), dir(1, "a", 4, "z", 3), file(1, "c"), file(1, "d")),
		[]string{"/ dir", "/a 'a'", "/b dir", "/b/a 'd'", "/b/z 'c'", "/c as /b/z"}, [3]int{3, 2, 3}})
}

func TestLookNamesOfOneFile(t *testing.T) {
	for _, c := range []looked{
		{"two in the root", tree(2, dir(1, "a", 1, "b", 1), file(2, "one")), []string{"/ dir", "/a 'one'", "/b as /a"}, [3]int{1, 1, 3}},
		{"two in one directory", tree(1, dir(1, "d", 1), dir(1, "a", 2, "b", 2), file(1, "one")), []string{"/ dir", "/d dir", "/d/a 'one'", "/d/b as /d/a"}, [3]int{1, 2, 3}},
		{"the first in the root", tree(1, dir(1, "a", 2, "d", 1), dir(1, "a", 2), file(1, "one")), []string{"/ dir", "/a 'one'", "/d dir", "/d/a as /a"}, [3]int{1, 2, 3}},
		{"the first within a directory", tree(1, dir(1, "d", 1, "z", 2), dir(1, "z", 2), file(1, "one")), []string{"/ dir", "/d dir", "/d/z 'one'", "/z as /d/z"}, [3]int{1, 2, 3}},
		{"the first deep within one", tree(1, dir(1, "a", 1, "b", 4), dir(1, "z", 2), dir(1, "z", 3), dir(1, "z", 4), file(1, "one")),
			[]string{"/ dir", "/a dir", "/a/z dir", "/a/z/z dir", "/a/z/z/z 'one'", "/b as /a/z/z/z"}, [3]int{1, 4, 3}},
		{"in two directories", tree(1, dir(1, "b", 1, "c", 2), dir(1, "z", 3), dir(1, "a", 3), file(1, "one")),
			[]string{"/ dir", "/b dir", "/b/z 'one'", "/c dir", "/c/a as /b/z"}, [3]int{1, 3, 3}},
		{"in two directories, the first of a later place", tree(1, dir(1, "b", 2, "c", 1), dir(1, "a", 3), dir(1, "z", 3), file(1, "one")),
			[]string{"/ dir", "/b dir", "/b/z 'one'", "/c dir", "/c/a as /b/z"}, [3]int{1, 3, 3}},
		{"in a directory and in the one that it is in", tree(1, dir(1, "d", 1), dir(1, "d", 2, "e", 3), dir(1, "f", 3), file(1, "one")),
			[]string{"/ dir", "/d dir", "/d/d dir", "/d/d/f 'one'", "/d/e as /d/d/f"}, [3]int{1, 3, 3}},
		{"three, each tells the first", tree(1, dir(1, "a", 1, "b", 1, "c", 1), file(1, "one")), []string{"/ dir", "/a 'one'", "/b as /a", "/c as /a"}, [3]int{1, 1, 3}},
		{"three in three directories", tree(1, dir(1, "a", 3, "b", 1, "c", 2), dir(1, "n", 4), dir(1, "a", 4), dir(1, "z", 4), file(1, "")),
			[]string{"/ dir", "/a dir", "/a/z ''", "/b dir", "/b/n as /a/z", "/c dir", "/c/a as /a/z"}, [3]int{1, 4, 0}},
		{"two files with two names each, crossed", tree(1, dir(1, "a", 1, "b", 2, "c", 1, "d", 2), file(1, "t"), file(1, "t")),
			[]string{"/ dir", "/a 't'", "/b 't'", "/c as /a", "/d as /b"}, [3]int{2, 1, 2}},
	} {
		wantLooked(t, c)
	}
}

// deepTree is directories within each other as deep as ways are long, each named d, and one file, place 6, with these names: the directory, the name.
func deepTree(text string, names ...any) impl.Tree {
	x := chain(6)
	x.Nodes = append(x.Nodes, file(1, text))
	for i := 0; i < len(names); i += 2 {
		n := &x.Nodes[names[i].(int)]
		at, _ := slices.BinarySearch(n.Names, names[i+1].(string))
		n.Names = slices.Insert(n.Names, at, names[i+1].(string))
		n.Kids = slices.Insert(n.Kids, at, 6)
	}
	return x
}

func TestLookLongWays(t *testing.T) {
	dirs := []string{"/ dir", "/d dir", "/d/d dir", "/d/d/d dir", "/d/d/d/d dir", "/d/d/d/d/d dir"}
	for size := 1; size <= 10; size++ {
		wantLooked(t, looked{fmt.Sprint(size, " directories"), chain(size), dirs[:min(size, 6)], [3]int{0, size, 0}})
	}
	for _, c := range []struct {
		what  string
		x     impl.Tree
		lines []string
	}{
		{"a file at the end of a long way", deepTree("low", 4, "f"), append(slices.Clone(dirs), "/d/d/d/d/f 'low'")},
		{"a file ahead of the last directory", deepTree("low", 4, "a"), slices.Insert(slices.Clone(dirs), 5, "/d/d/d/d/a 'low'")},
		{"a file that lies too deep", deepTree("low", 5, "f"), dirs},
		{"one with two names that lie too deep", deepTree("low", 5, "e", 5, "f"), dirs},
		{"one with another name behind", deepTree("low", 5, "f", 0, "z"), append(slices.Clone(dirs), "/z 'low'")},
		{"one with another name ahead", deepTree("low", 5, "f", 0, "a"), slices.Insert(slices.Clone(dirs), 1, "/a 'low'")},
		{"one with another name just not too deep", deepTree("low", 5, "f", 4, "z"), append(slices.Clone(dirs), "/d/d/d/d/z 'low'")},
		{"one with two other names behind", deepTree("low", 5, "f", 0, "y", 0, "z"), append(slices.Clone(dirs), "/y 'low'", "/z as /y")},
		{"one with a name ahead and one behind", deepTree("low", 5, "f", 3, "a", 0, "z"), append(slices.Insert(slices.Clone(dirs), 4, "/d/d/d/a 'low'"), "/z as /d/d/d/a")},
		{"a long way as the first of two", deepTree("low", 4, "f", 0, "z"), append(slices.Clone(dirs), "/d/d/d/d/f 'low'", "/z as /d/d/d/d/f")},
		{"a long way as the second of two", deepTree("low", 4, "f", 0, "a"), append(slices.Insert(slices.Clone(dirs), 1, "/a 'low'"), "/d/d/d/d/f as /a")},
	} {
		wantLooked(t, looked{c.what, c.x, c.lines, [3]int{1, 6, 3}})
	}
	wide := tree(1, dir(1, "abcd", 1), dir(1, "abcd", 2), dir(1, "abcd", 3), dir(1, "abcd", 4), dir(1, "abcd", 5, "wxyz", 6), file(1, "abcdef"), dir(1, "abcd", 7, "z", 5), dir(1, "a", 8), file(1, "deep"))
	wantLooked(t, looked{"long names", wide, []string{
		"/ dir", "/abcd dir", "/abcd/abcd dir", "/abcd/abcd/abcd dir", "/abcd/abcd/abcd/abcd dir",
		"/abcd/abcd/abcd/abcd/abcd 'abcdef'", "/abcd/abcd/abcd/abcd/wxyz dir",
	}, [3]int{2, 7, 10}})
}

// What is too long is left out, and what comes behind it is not.
func TestLookGoesOnBehindWhatIsTooLong(t *testing.T) {
	x := tree(1, dir(1, "a", 1, "b", 9), dir(1, "a", 2, "b", 9), dir(1, "a", 3, "b", 9), dir(1, "a", 4, "b", 9), dir(1, "a", 5, "b", 7), dir(1, "a", 6, "b", 8), dir(1, "b", 8), dir(1, "b", 8), file(1, "x"), file(1, "y"))
	wantLooked(t, looked{"behind", x, []string{
		"/ dir", "/a dir", "/a/a dir", "/a/a/a dir", "/a/a/a/a dir", "/a/a/a/a/a dir", "/a/a/a/a/b dir", "/a/a/a/b 'y'", "/a/a/b as /a/a/a/b", "/a/b as /a/a/a/b", "/b as /a/a/a/b",
	}, [3]int{2, 8, 2}})
}

func TestLookSameOfTreesThatAreNotTheSame(t *testing.T) {
	house := houseTree()
	otherTurns := bent(func(x *impl.Tree) {
		x.Now = 1000
		for ino := range x.Nodes {
			if x.Nodes[ino].Kind != impl.NodeFree {
				x.Nodes[ino].At = 100 + ino
			}
		}
	})
	otherPlaces := tree(9,
		dir(9, "a", 9, "b", 1, "c", 1, "home", 3),
		file(5, "twice"), dir(8, "b", 1), dir(9, "deep", 2, "x", 5), dir(4), file(1, ""), free(), file(2, "z"), free(), dir(3, "ab", 4, "x", 5, "zzzz", 7))
	noFree := tree(9,
		dir(9, "a", 1, "b", 3, "c", 3, "home", 5),
		dir(3, "ab", 2, "x", 4, "zzzz", 6), dir(4), file(5, "twice"), file(1, ""), dir(9, "deep", 7, "x", 4), file(2, "z"), dir(8, "b", 3))
	for what, x := range map[string]impl.Tree{
		"Now": bent(func(x *impl.Tree) { x.Now = 10 }), "turns": otherTurns, "places in another order": otherPlaces, "no free places": noFree,
		"one turn": bent(func(x *impl.Tree) { x.Nodes[4].At = 6 }), "empty lists": hollow(house),
	} {
		wantSame(t, what, house, x)
		if what != "empty lists" && impl.TreeSame(house, x) {
			t.Errorf("%s: the test's own trees are the same", what)
		}
		wantLooked(t, looked{what, x, houseLooked().lines, houseLooked().many})
	}
	wantSame(t, "free places behind", impl.TreeNew(1), tree(7, dir(3), free(), free()))
	wantSame(t, "what lies too deep, and nothing", chain(6), chain(10))
	wantSame(t, "a file that lies too deep, and nothing", chain(6), deepTree("low", 5, "f"))
	wantSame(t, "texts that lie too deep", deepTree("high", 5, "f"), deepTree("low", 5, "f"))
	wantSame(t, "another name that lies too deep", deepTree("low", 5, "f", 0, "z"), deepTree("low", 0, "z"))
	wantSame(t, "other names that lie too deep", deepTree("low", 5, "f", 2, "z"), deepTree("low", 5, "a", 5, "b", 2, "z"))
}

func TestLookDiff(t *testing.T) {
	one, two := tree(1, dir(1, "a", 1, "b", 1), file(1, "t")), tree(1, dir(1, "a", 1, "b", 2), file(1, "t"), file(1, "t"))
	three := tree(1, dir(1, "a", 1, "b", 1, "c", 1), file(1, "t"))
	withDir := tree(1, dir(1, "d", 1), dir(1, "a", 2, "b", 3), file(1, "x"), file(1, "y"))
	for _, c := range []struct {
		what       string
		a, b       impl.Tree
		diff, back string
	}{
		{"a text", flat(3), tree(1, dir(1, "a", 1, "b", 2, "c", 3), file(1, "t"), file(1, "u"), file(1, "t")), "/b", "/b"},
		{"a text that is longer", tree(1, dir(1, "a", 1), file(1, "t")), tree(1, dir(1, "a", 1), file(1, "tt")), "/a", "/a"},
		{"no text", tree(1, dir(1, "a", 1), file(1, "t")), tree(1, dir(1, "a", 1), file(1, "")), "/a", "/a"},
		{"a kind", tree(1, dir(1, "a", 1), file(1, "")), tree(1, dir(1, "a", 1), dir(1)), "/a", "/a"},
		{"a kind, and what is called so", tree(1, dir(1, "a", 1), file(1, "dir")), tree(1, dir(1, "a", 1), dir(1)), "/a", "/a"},
		{"a kind, with something within", tree(1, dir(1, "d", 1), file(1, "")), withDir, "/d /d/a /d/b", "/d /d/a /d/b"},
		{"a way that only one has", impl.TreeNew(1), flat(1), "/a", "/a"},
		{"a way behind all that only one has", flat(2), flat(3), "/c", "/c"},
		{"a way ahead of all that only one has", without(flat(3), 1), flat(3), "/a", "/a"},
		{"a way that each has", without(flat(3), 1), without(flat(3), 3), "/c /a", "/a /c"},
		{"ways that each has, with lines that part", tree(1, dir(1, "a", 1, "c", 2, "y", 3), file(1, "t"), file(1, "u"), file(1, "w")),
			tree(1, dir(1, "b", 1, "c", 2, "x", 3), file(1, "t"), file(1, "v"), file(1, "w")), "/a /c /y /b /x", "/b /c /x /a /y"},
		{"another name", tree(1, dir(1, "a", 1), file(1, "t")), tree(1, dir(1, "ab", 1), file(1, "t")), "/a /ab", "/ab /a"},
		{"whether two names are of one file", one, two, "/b", "/b"},
		{"of which file a name is", tree(1, dir(1, "a", 1, "b", 2, "c", 1), file(1, "t"), file(1, "t")), tree(1, dir(1, "a", 1, "b", 2, "c", 2), file(1, "t"), file(1, "t")), "/c", "/c"},
		{"whether the last two of three are of one file", tree(1, dir(1, "a", 1, "b", 2, "c", 2), file(1, "t"), file(1, "t")), tree(1, dir(1, "a", 1, "b", 2, "c", 3), file(1, "t"), file(1, "t"), file(1, "t")), "/c", "/c"},
		{"the first name is gone", three, tree(1, dir(1, "b", 1, "c", 1), file(1, "t")), "/a /b /c", "/b /c /a"},
		{"the second name is gone", three, tree(1, dir(1, "a", 1, "c", 1), file(1, "t")), "/b", "/b"},
		{"the text of a file with three names", three, tree(1, dir(1, "a", 1, "b", 1, "c", 1), file(1, "u")), "/a", "/a"},
		{"a directory of another name", withDir, tree(1, dir(1, "e", 1), dir(1, "a", 2, "b", 3), file(1, "x"), file(1, "y")), "/d /d/a /d/b /e /e/a /e/b", "/e /e/a /e/b /d /d/a /d/b"},
		{"the first name moved to another directory", tree(1, dir(1, "d", 2, "z", 1), file(1, "t"), dir(1, "a", 1)), tree(1, dir(1, "a", 1, "d", 2, "z", 1), file(1, "t"), dir(1)), "/d/a /z /a", "/a /z /d/a"},
		{"all but the root", flat(9), impl.TreeNew(1), "/a /b /c /d /e /f /g /h /i", "/a /b /c /d /e /f /g /h /i"},
		{"a long way", deepTree("low", 4, "f"), chain(6), "/d/d/d/d/f", "/d/d/d/d/f"},
		{"a text that shows by another name", deepTree("low", 5, "f", 0, "z"), deepTree("high", 5, "f", 0, "z"), "/z", "/z"},
	} {
		wantDiff(t, c.what, c.a, c.b, strings.Fields(c.diff), strings.Fields(c.back))
		wantSame(t, c.what, c.a, c.a)
		wantSame(t, c.what, c.b, c.b)
	}
}

// Each deed that turns a tree shows just where it should.
func TestLookDiffOfWhatIsDone(t *testing.T) {
	house := houseTree()
	for _, c := range []struct {
		d          deed
		diff, back string
	}{
		{newFile("/q"), "/q", "/q"},
		{newDir("/a/ab/q"), "/a/ab/q", "/a/ab/q"},
		{putText("/home/deep/b", "new"), "/b", "/b"},
		{putText("/b", "twice"), "", ""},
		{link("/a/zzzz", "/a/a"), "/a/zzzz /a/a", "/a/a /a/zzzz"},
		{link("/a/zzzz", "/q"), "/q", "/q"},
		{move("/a", "/z"), "/a /a/ab /a/x /a/zzzz /home/x /z /z/ab /z/x /z/zzzz", "/home/x /z /z/ab /z/x /z/zzzz /a /a/ab /a/x /a/zzzz"},
		{move("/c", "/aa"), "/b /c /home/deep/b /aa", "/aa /b /home/deep/b /c"},
		{drop("/b"), "/b /c /home/deep/b", "/c /home/deep/b /b"},
		{drop("/c"), "/c", "/c"},
		{drop("/a/ab"), "/a/ab", "/a/ab"},
	} {
		x, code := c.d.do(house)
		if code != impl.MakeFine {
			t.Fatalf("%v ends with %d", c.d, code)
		}
		wantDiff(t, c.d.String(), house, x, strings.Fields(c.diff), strings.Fields(c.back))
	}
}

func TestLookMany(t *testing.T) {
	letters := tree(1, dir(1, "a", 1, "b", 2, "c", 3, "d", 4, "e", 1, "f", 1), file(1, "abcdef"), file(1, "a"), file(1, ""), dir(1, "a", 1, "b", 5, "c", 2), file(1, "xyz"))
	for _, c := range []struct {
		what string
		x    impl.Tree
		want [3]int
	}{
		{"a root alone", impl.TreeNew(5), [3]int{0, 1, 0}},
		{"nine files", flat(9), [3]int{9, 1, 9}},
		{"nine files with as many letters as may be", func() impl.Tree {
			x := flat(9)
			for ino := 1; ino <= 9; ino++ {
				x.Nodes[ino].Text = "zzzzzz"
			}
			return x
		}(), [3]int{9, 1, 54}},
		{"each file once", letters, [3]int{4, 2, 10}},
		{"directories deeper than ways", chain(10), [3]int{0, 10, 0}},
		{"a file deeper than ways", deepTree("low", 5, "f"), [3]int{1, 6, 3}},
		{"a file deeper than ways, and not", deepTree("low", 5, "f", 5, "g", 0, "z"), [3]int{1, 6, 3}},
		{"free places", without(flat(9), 1, 5, 9), [3]int{6, 1, 6}},
	} {
		if got := many(c.x); got != c.want {
			t.Errorf("%s: LookMany = %v; want %v", c.what, got, c.want)
		}
	}
}

func TestLookTreesThatAreNotOk(t *testing.T) {
	fine := []impl.Tree{impl.TreeNew(1), houseTree(), flat(1), chain(10)}
	wrong := treesNotOk()
	for i, x := range wrong {
		if got := impl.LookAll(x); len(got) != 0 {
			t.Errorf("LookAll = %q of\n%s", got, listed(x))
		}
		if got := impl.LookText(x); got != "" {
			t.Errorf("LookText = %q of\n%s", got, listed(x))
		}
		if got := many(x); got != [3]int{} {
			t.Errorf("LookMany = %v of\n%s", got, listed(x))
		}
		// The tree itself, and the next one that is not ok: both of two are wrong.
		for _, y := range append(fine, x, cloneTree(x), wrong[(i+1)%len(wrong)]) {
			wantNoneOfTwo(t, x, y)
			wantNoneOfTwo(t, y, x)
		}
	}
}

// wantNoneOfTwo asks for the answers of two trees of which one is not ok.
func wantNoneOfTwo(t *testing.T, a, b impl.Tree) {
	t.Helper()
	if impl.LookSame(a, b) {
		t.Errorf("LookSame = true of\n%sand\n%s", listed(a), listed(b))
	}
	if got := impl.LookDiff(a, b); len(got) != 0 {
		t.Errorf("LookDiff = %q of\n%sand\n%s", got, listed(a), listed(b))
	}
}

// Nothing bounds how many names a directory has.
func TestLookVeryManyNames(t *testing.T) {
	x := tree(1, dir(1), file(1, "all"), file(1, "other"))
	var ways [][]string
	var text strings.Builder
	text.WriteString("/ dir\n")
	ways = append(ways, nil)
	for a := 'a'; a <= 'z'; a++ {
		for b := 'a'; b <= 'z'; b++ {
			for c := 'a'; c <= 'z'; c++ {
				name := string(a) + string(b) + string(c)
				x.Nodes[0].Names, x.Nodes[0].Kids = append(x.Nodes[0].Names, name), append(x.Nodes[0].Kids, 1)
				ways = append(ways, []string{name})
				if name == "aaa" {
					text.WriteString("/aaa 'all'\n")
				} else if name != "zzz" {
					text.WriteString("/" + name + " as /aaa\n")
				}
			}
		}
	}
	last := len(x.Nodes[0].Kids) - 1
	x.Nodes[0].Kids[last] = 2
	text.WriteString("/zzz 'other'\n")
	if !slices.EqualFunc(impl.LookAll(x), ways, slices.Equal) {
		t.Error("LookAll does not tell all")
	}
	if impl.LookText(x) != text.String() {
		t.Error("LookText does not tell all")
	}
	if got := many(x); got != [3]int{2, 1, 8} {
		t.Errorf("LookMany = %v; want [2 1 8]", got)
	}
	y := cloneTree(x)
	y.Nodes[2].Text, y.Nodes[0].Kids[1] = "bent", 2
	wantDiff(t, "very many names", x, y, []string{"/aab", "/zzz"}, []string{"/aab", "/zzz"})
}

// lookTrees is trees with each kind of line, and some that are not ok.
func lookTrees() []impl.Tree {
	return append(memoryTrees(), deepTree("low", 5, "f", 4, "a", 0, "z"), without(flat(9), 2, 5), tree(1, dir(1, "a", 1), file(1, "a")))
}

// wantApart asks that none of these lists lies where another one, or one that was given, does.
func wantApart(t *testing.T, lists []span, given []span) {
	t.Helper()
	for i, a := range lists {
		for _, b := range append(slices.Clone(lists[i+1:]), given...) {
			if spansOverlap(a, b) {
				t.Errorf("%s shares memory with %s", a.what, b.what)
			}
		}
	}
}

// textSpans is where texts lie.
func textSpans(what string, list []string) (all []span) {
	for _, text := range list {
		all = append(all, textSpan(fmt.Sprintf("%s %q", what, text), text))
	}
	return all
}

// waySpans is where the lists and the names of LookAll's answer lie, those in its spare room too.
func waySpans(all [][]string) (lists []span) {
	lists = []span{spanOf("the list of ways", all)}
	for i, way := range all[:cap(all)] {
		lists = append(lists, spanOf(fmt.Sprint("way ", i), way))
		lists = append(lists, textSpans(fmt.Sprint("way ", i, ", name"), way[:cap(way)])...)
	}
	return lists
}

func TestLookAnswersAreNewMemory(t *testing.T) {
	for _, given := range lookTrees() {
		x, _ := ownTexts(given, deed{})
		x, _ = roomy(x)
		ofX := append(listSpans("the tree's", x), textSpans("the tree's text", texts(x))...)
		wantApart(t, waySpans(impl.LookAll(x)), ofX)
		wantApart(t, []span{textSpan("LookText", impl.LookText(x))}, ofX)
		for _, other := range lookTrees() {
			y, _ := ownTexts(other, deed{})
			y, _ = roomy(y)
			both := append(slices.Clone(ofX), append(listSpans("the other's", y), textSpans("the other's text", texts(y))...)...)
			diff := impl.LookDiff(x, y)
			wantApart(t, append(textSpans("LookDiff's text", diff[:cap(diff)]), spanOf("LookDiff", diff)), both)
		}
	}
}

// overwriteWays writes into all of an answer of LookAll, its spare room too.
func overwriteWays(all [][]string) {
	for i, way := range all[:cap(all)] {
		overwriteNames(way)
		all[:cap(all)][i] = []string{"bent"}
	}
}

func overwriteNames(list []string) {
	for i := range list[:cap(list)] {
		list[:cap(list)][i] = "bent"
	}
}

func TestLookWritesIntoNoArgument(t *testing.T) {
	for _, given := range lookTrees() {
		for _, other := range lookTrees() {
			a, roomOfA := roomy(given)
			b, roomOfB := roomy(other)
			wasA, wasB := roomOfA(), roomOfB()
			ways := impl.LookAll(a)
			impl.LookText(a)
			impl.LookSame(a, b)
			diff := impl.LookDiff(a, b)
			impl.LookMany(a)
			if roomOfA() != wasA || roomOfB() != wasB {
				t.Errorf("looking wrote into what was given:\n%s%s", wasA, wasB)
			}
			overwriteWays(ways)
			overwriteNames(diff)
			if roomOfA() != wasA || roomOfB() != wasB {
				t.Errorf("what is written into an answer shows in what was given:\n%s%s", wasA, wasB)
			}
		}
	}
}

// What is written into one way of an answer, or behind its end, shows in no other one.
func TestLookAllWaysAreApart(t *testing.T) {
	for _, x := range lookTrees() {
		want := impl.LookAll(x)
		for i := range want {
			got := impl.LookAll(x)
			overwriteNames(got[i])
			got[i] = append(got[i], "bent")
			for j := range got {
				if j != i && !slices.Equal(got[j], want[j]) {
					t.Errorf("way %d is %q once %d was written into; want %q", j, got[j], i, want[j])
				}
			}
		}
	}
}

// No call leaves anything for the next one, whatever becomes of its answer.
func TestLookKeepsNothing(t *testing.T) {
	told := func(x, y impl.Tree) string {
		return fmt.Sprint(impl.LookAll(x), impl.LookText(x), impl.LookSame(x, y), impl.LookDiff(x, y), many(x))
	}
	for _, x := range lookTrees() {
		for _, y := range lookTrees() {
			first := told(x, y)
			ways, diff := impl.LookAll(x), impl.LookDiff(x, y)
			second := told(x, y)
			overwriteWays(ways)
			overwriteNames(diff)
			if third := told(x, y); first != second || first != third {
				t.Errorf("three answers are\n%s\n%s\n%s", first, second, third)
			}
			if other := told(hollow(x), hollow(y)); other != first {
				t.Errorf("the answer hangs on empty lists:\n%s\n%s", first, other)
			}
		}
	}
}
