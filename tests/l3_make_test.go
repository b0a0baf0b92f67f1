package tests

import (
	"fmt"
	"slices"
	"strings"
	"testing"
	"unsafe"

	"loop.example/cellarage/impl"
)

// deed is one call of the five that do something to a tree.
type deed struct {
	what string
	p, q []string
	kind int
	text string
}

// namesOf is the names of a text as it is, whether or not they are names: what is asked of ways that are none needs them, too.
func namesOf(text string) []string {
	if text == "/" {
		return nil
	}
	return strings.Split(strings.TrimPrefix(text, "/"), "/")
}

func newFile(p string) deed           { return deed{what: "new", p: namesOf(p), kind: impl.NodeFile} }
func newDir(p string) deed            { return deed{what: "new", p: namesOf(p), kind: impl.NodeDir} }
func newKind(p string, kind int) deed { return deed{what: "new", p: namesOf(p), kind: kind} }
func putText(p, text string) deed     { return deed{what: "text", p: namesOf(p), text: text} }
func link(p, q string) deed           { return deed{what: "link", p: namesOf(p), q: namesOf(q)} }
func move(p, q string) deed           { return deed{what: "move", p: namesOf(p), q: namesOf(q)} }
func drop(p string) deed              { return deed{what: "drop", p: namesOf(p)} }

func (d deed) do(x impl.Tree) (impl.Tree, int) {
	switch d.what {
	case "new":
		return impl.MakeNew(x, d.p, d.kind)
	case "text":
		return impl.MakeText(x, d.p, d.text)
	case "link":
		return impl.MakeLink(x, d.p, d.q)
	case "move":
		return impl.MakeMove(x, d.p, d.q)
	}
	return impl.MakeDrop(x, d.p)
}

func (d deed) String() string {
	return fmt.Sprintf("%s %.40q %.40q kind %d text %.20q", d.what, d.p, d.q, d.kind, d.text)
}

// everyDeed is each of the five, each as it would be done to houseTree.
func everyDeed() []deed {
	return []deed{newFile("/q"), newDir("/home/q"), putText("/b", "new"), link("/a/x", "/q"), move("/a", "/home/a"), move("/a/x", "/y"), drop("/a/ab"), drop("/b")}
}

// wantDone asks for an answer, every place of it, and that the tree that was given is as it was.
func wantDone(t *testing.T, x impl.Tree, d deed, code int, want impl.Tree) {
	t.Helper()
	was := listed(x)
	got, gotCode := d.do(x)
	if gotCode != code || listed(got) != listed(want) {
		t.Errorf("%v of\n%sends with %d, and is\n%swant %d, and\n%s", d, was, gotCode, listed(got), code, listed(want))
	}
	if listed(x) != was {
		t.Errorf("%v turned the tree that was given:\n%swas\n%s", d, listed(x), was)
	}
}

// wantFine asks that a deed is done, and that all is as in the tree that was given but for the next turn and what f says.
func wantFine(t *testing.T, x impl.Tree, d deed, f func(want *impl.Tree)) {
	t.Helper()
	want := cloneTree(x)
	want.Now++
	f(&want)
	if !modelOk(want) {
		t.Fatalf("%v: the test's own tree is not ok:\n%s", d, listed(want))
	}
	wantDone(t, x, d, impl.MakeFine, want)
}

// wantRefused asks for a code, and the tree as it was.
func wantRefused(t *testing.T, x impl.Tree, d deed, code int) {
	t.Helper()
	wantDone(t, x, d, code, cloneTree(x))
}

// wantForm asks for nothing and MakeForm.
func wantForm(t *testing.T, x impl.Tree, d deed) {
	t.Helper()
	wantDone(t, x, d, impl.MakeForm, impl.Tree{})
}

func TestMakeCodes(t *testing.T) {
	got := [6]int{impl.MakeFine, impl.MakeNone, impl.MakeThere, impl.MakeFull, impl.MakeBad, impl.MakeForm}
	if want := [6]int{0, 1, 2, 3, 4, 5}; got != want {
		t.Errorf("codes are %v; want %v", got, want)
	}
}

func TestMakeNew(t *testing.T) {
	root := impl.TreeNew(4)
	wantFine(t, root, newFile("/a"), func(x *impl.Tree) { x.Nodes = []impl.Node{dir(5, "a", 1), file(5, "")} })
	wantFine(t, root, newDir("/zzzz"), func(x *impl.Tree) { x.Nodes = []impl.Node{dir(5, "zzzz", 1), dir(5)} })
	house := houseTree()
	wantFine(t, house, newFile("/q"), func(x *impl.Tree) {
		x.Nodes[0], x.Nodes[3] = dir(10, "a", 1, "b", 4, "c", 4, "home", 7, "q", 3), file(10, "")
	})
	wantFine(t, house, newDir("/aa"), func(x *impl.Tree) {
		x.Nodes[0], x.Nodes[3] = dir(10, "a", 1, "aa", 3, "b", 4, "c", 4, "home", 7), dir(10)
	})
	wantFine(t, house, newFile("/a/a"), func(x *impl.Tree) {
		x.Nodes[1], x.Nodes[3] = dir(10, "a", 3, "ab", 2, "x", 6, "zzzz", 8), file(10, "")
	})
	wantFine(t, house, newDir("/a/ab/a"), func(x *impl.Tree) { x.Nodes[2], x.Nodes[3] = dir(10, "a", 3), dir(10) })
	wantFine(t, house, newFile("/home/deep/c"), func(x *impl.Tree) { x.Nodes[9], x.Nodes[3] = dir(10, "b", 4, "c", 3), file(10, "") })
}

func TestMakeNewRefused(t *testing.T) {
	house := houseTree()
	for _, d := range []deed{newFile("/"), newDir("/"), newFile("/q/x"), newDir("/a/q/x"), newFile("/a/ab/q/q/q")} {
		wantRefused(t, house, d, impl.MakeNone)
	}
	for _, d := range []deed{newFile("/b/x"), newDir("/a/x/y"), newFile("/home/deep/b/c"), newFile("/b/x/y")} {
		wantRefused(t, house, d, impl.MakeNone)
	}
	for text := range houseWays() {
		if text != "/" {
			wantRefused(t, house, newFile(text), impl.MakeThere)
			wantRefused(t, house, newDir(text), impl.MakeThere)
		}
	}
	const most = int(^uint(0) >> 1)
	for _, kind := range []int{impl.NodeFree, 3, 4, -1, -2, 257, 258, 1<<32 + 1, most, -most - 1} {
		wantRefused(t, house, newKind("/q", kind), impl.MakeBad)
		wantRefused(t, impl.TreeNew(1), newKind("/q", kind), impl.MakeBad)
	}
}

// flat is a root and so many files in it, named a, b, and so on.
func flat(files int) impl.Tree {
	x := tree(1, dir(1))
	for i := range files {
		x.Nodes[0].Names = append(x.Nodes[0].Names, string(rune('a'+i)))
		x.Nodes[0].Kids = append(x.Nodes[0].Kids, i+1)
		x.Nodes = append(x.Nodes, file(1, "t"))
	}
	return x
}

// without is a tree in which these files of flat are free places.
func without(x impl.Tree, files ...int) impl.Tree {
	for _, ino := range files {
		at := slices.Index(x.Nodes[0].Kids, ino)
		x.Nodes[0].Names = slices.Delete(x.Nodes[0].Names, at, at+1)
		x.Nodes[0].Kids = slices.Delete(x.Nodes[0].Kids, at, at+1)
		x.Nodes[ino] = free()
	}
	return x
}

func TestMakeNewPlaces(t *testing.T) {
	wantTaken := func(x impl.Tree, ino int) {
		t.Helper()
		for _, d := range []deed{newFile("/z"), newDir("/z")} {
			wantFine(t, x, d, func(want *impl.Tree) {
				if ino == len(want.Nodes) {
					want.Nodes = append(want.Nodes, free())
				}
				want.Nodes[ino] = impl.Node{Kind: d.kind, At: 2}
				want.Nodes[0].Names = append(want.Nodes[0].Names, "z")
				want.Nodes[0].Kids = append(want.Nodes[0].Kids, ino)
				want.Nodes[0].At = 2
			})
		}
	}
	for files := range 9 {
		wantTaken(flat(files), files+1)
	}
	wantRefused(t, flat(9), newFile("/z"), impl.MakeFull)
	wantRefused(t, flat(9), newDir("/z"), impl.MakeFull)
	for ino := 1; ino <= 9; ino++ {
		wantTaken(without(flat(9), ino), ino)
		for second := ino + 1; second <= 9; second++ {
			wantTaken(without(flat(9), second, ino), ino)
		}
	}
	wantTaken(without(flat(9), 1, 2, 3, 4, 5, 6, 7, 8, 9), 1)
	wantTaken(without(flat(3), 3), 3)
	wantTaken(without(flat(3), 2), 2)
}

func TestMakeText(t *testing.T) {
	house := houseTree()
	for _, p := range []string{"/b", "/c", "/home/deep/b"} {
		wantFine(t, house, putText(p, "other"), func(x *impl.Tree) { x.Nodes[4] = file(10, "other") })
		wantFine(t, house, putText(p, "twice"), func(x *impl.Tree) { x.Nodes[4] = file(10, "twice") })
		wantFine(t, house, putText(p, ""), func(x *impl.Tree) { x.Nodes[4] = file(10, "") })
	}
	wantFine(t, house, putText("/a/zzzz", "abcdef"), func(x *impl.Tree) { x.Nodes[8] = file(10, "abcdef") })
	wantFine(t, house, putText("/home/x", "zzzzzz"), func(x *impl.Tree) { x.Nodes[6] = file(10, "zzzzzz") })
}

func TestMakeTextRefused(t *testing.T) {
	house := houseTree()
	wrong := []string{
		"abcdefg", "zzzzzzz", strings.Repeat("a", 1<<20), "A", "aB", "hello1", " ", "a ", " a", "a b", "\n", "a\n",
		"'", "`", "{", "/", "\x00", "\u00e9", "a\u0430", "\xff",
	}
	for _, text := range wrong {
		wantRefused(t, house, putText("/b", text), impl.MakeBad)
	}
	for _, p := range []string{"/q", "/a/q", "/q/a", "/b/b", "/a/x/x", "/home/deep/c"} {
		wantRefused(t, house, putText(p, "new"), impl.MakeNone)
	}
	for _, p := range []string{"/", "/a", "/a/ab", "/home", "/home/deep"} {
		wantRefused(t, house, putText(p, "new"), impl.MakeBad)
		wantRefused(t, house, putText(p, ""), impl.MakeBad)
	}
}

func TestMakeLink(t *testing.T) {
	house := houseTree()
	wantFine(t, house, link("/a/zzzz", "/q"), func(x *impl.Tree) {
		x.Nodes[0], x.Nodes[8] = dir(10, "a", 1, "b", 4, "c", 4, "home", 7, "q", 8), file(10, "z")
	})
	wantFine(t, house, link("/a/zzzz", "/a/a"), func(x *impl.Tree) {
		x.Nodes[1], x.Nodes[8] = dir(10, "a", 8, "ab", 2, "x", 6, "zzzz", 8), file(10, "z")
	})
	wantFine(t, house, link("/b", "/a/ab/b"), func(x *impl.Tree) { x.Nodes[2], x.Nodes[4] = dir(10, "b", 4), file(10, "twice") })
	wantFine(t, house, link("/home/deep/b", "/bb"), func(x *impl.Tree) {
		x.Nodes[0], x.Nodes[4] = dir(10, "a", 1, "b", 4, "bb", 4, "c", 4, "home", 7), file(10, "twice")
	})
	// Another name takes no other place.
	wantFine(t, flat(9), link("/a", "/z"), func(x *impl.Tree) {
		x.Nodes[0] = dir(2, "a", 1, "b", 2, "c", 3, "d", 4, "e", 5, "f", 6, "g", 7, "h", 8, "i", 9, "z", 1)
		x.Nodes[1].At = 2
	})
}

func TestMakeLinkRefused(t *testing.T) {
	house := houseTree()
	for _, d := range []deed{link("/q", "/y"), link("/a/q", "/y"), link("/b/x", "/y"), link("/b", "/q/y"), link("/b", "/a/x/y"), link("/b", "/b/y"), link("/b", "/"), link("/q", "/")} {
		wantRefused(t, house, d, impl.MakeNone)
	}
	for _, p := range []string{"/", "/a", "/a/ab", "/home", "/home/deep"} {
		wantRefused(t, house, link(p, "/q"), impl.MakeBad)
	}
	for _, p := range []string{"/b", "/c", "/a/x", "/a/zzzz", "/home/deep/b"} {
		for text := range houseWays() {
			if text != "/" {
				wantRefused(t, house, link(p, text), impl.MakeThere)
			}
		}
	}
}

func TestMakeMoveFile(t *testing.T) {
	house := houseTree()
	wantFine(t, house, move("/a/zzzz", "/q"), func(x *impl.Tree) {
		x.Nodes[0], x.Nodes[1] = dir(10, "a", 1, "b", 4, "c", 4, "home", 7, "q", 8), dir(10, "ab", 2, "x", 6)
		x.Nodes[8] = file(10, "z")
	})
	wantFine(t, house, move("/a/zzzz", "/a/a"), func(x *impl.Tree) {
		x.Nodes[1], x.Nodes[8] = dir(10, "a", 8, "ab", 2, "x", 6), file(10, "z")
	})
	wantFine(t, house, move("/a/zzzz", "/a/ab/zzzz"), func(x *impl.Tree) {
		x.Nodes[1], x.Nodes[2], x.Nodes[8] = dir(10, "ab", 2, "x", 6), dir(10, "zzzz", 8), file(10, "z")
	})
}

// Of a file with several names just the one that is moved goes.
func TestMakeMoveOneOfSeveralNames(t *testing.T) {
	house := houseTree()
	wantFine(t, house, move("/b", "/q"), func(x *impl.Tree) {
		x.Nodes[0], x.Nodes[4] = dir(10, "a", 1, "c", 4, "home", 7, "q", 4), file(10, "twice")
	})
	wantFine(t, house, move("/c", "/aa"), func(x *impl.Tree) {
		x.Nodes[0], x.Nodes[4] = dir(10, "a", 1, "aa", 4, "b", 4, "home", 7), file(10, "twice")
	})
	wantFine(t, house, move("/c", "/home/deep/c"), func(x *impl.Tree) {
		x.Nodes[0], x.Nodes[9], x.Nodes[4] = dir(10, "a", 1, "b", 4, "home", 7), dir(10, "b", 4, "c", 4), file(10, "twice")
	})
	wantFine(t, house, move("/home/deep/b", "/d"), func(x *impl.Tree) {
		x.Nodes[0], x.Nodes[9], x.Nodes[4] = dir(10, "a", 1, "b", 4, "c", 4, "d", 4, "home", 7), dir(10), file(10, "twice")
	})
	wantFine(t, house, move("/home/x", "/a/y"), func(x *impl.Tree) {
		x.Nodes[7], x.Nodes[1], x.Nodes[6] = dir(10, "deep", 9), dir(10, "ab", 2, "x", 6, "y", 6, "zzzz", 8), file(10, "")
	})
}

func TestMakeMoveDirectory(t *testing.T) {
	house := houseTree()
	wantFine(t, house, move("/a", "/z"), func(x *impl.Tree) {
		x.Nodes[0], x.Nodes[1].At = dir(10, "b", 4, "c", 4, "home", 7, "z", 1), 10
	})
	wantFine(t, house, move("/home", "/aa"), func(x *impl.Tree) {
		x.Nodes[0], x.Nodes[7].At = dir(10, "a", 1, "aa", 7, "b", 4, "c", 4), 10
	})
	wantFine(t, house, move("/a", "/home/deep/a"), func(x *impl.Tree) {
		x.Nodes[0], x.Nodes[9], x.Nodes[1].At = dir(10, "b", 4, "c", 4, "home", 7), dir(10, "a", 1, "b", 4), 10
	})
	wantFine(t, house, move("/home/deep", "/deep"), func(x *impl.Tree) {
		x.Nodes[0], x.Nodes[7], x.Nodes[9].At = dir(10, "a", 1, "b", 4, "c", 4, "deep", 9, "home", 7), dir(10, "x", 6), 10
	})
	wantFine(t, house, move("/a/ab", "/a/z"), func(x *impl.Tree) {
		x.Nodes[1], x.Nodes[2].At = dir(10, "x", 6, "z", 2, "zzzz", 8), 10
	})
	wantFine(t, house, move("/a/ab", "/home/deep/z"), func(x *impl.Tree) {
		x.Nodes[1], x.Nodes[9], x.Nodes[2].At = dir(10, "x", 6, "zzzz", 8), dir(10, "b", 4, "z", 2), 10
	})
	// A name that begins with the other one, or ends as it, is not within it.
	wantFine(t, house, move("/a", "/ab"), func(x *impl.Tree) {
		x.Nodes[0], x.Nodes[1].At = dir(10, "ab", 1, "b", 4, "c", 4, "home", 7), 10
	})
	wantFine(t, house, move("/a/ab", "/home/ab"), func(x *impl.Tree) {
		x.Nodes[1], x.Nodes[7], x.Nodes[2].At = dir(10, "x", 6, "zzzz", 8), dir(10, "ab", 2, "deep", 9, "x", 6), 10
	})
}

func TestMakeMoveRefused(t *testing.T) {
	house := houseTree()
	for _, d := range []deed{move("/q", "/y"), move("/a/q", "/y"), move("/b/x", "/y"), move("/b", "/q/y"), move("/a", "/b/y"), move("/b", "/b/y"), move("/b", "/"), move("/a", "/"), move("/q", "/")} {
		wantRefused(t, house, d, impl.MakeNone)
	}
	for _, q := range []string{"/q", "/a/q", "/home/deep/q"} {
		wantRefused(t, house, move("/", q), impl.MakeBad)
	}
	for _, d := range []deed{move("/a", "/a/q"), move("/a", "/a/ab/q"), move("/a/ab", "/a/ab/q"), move("/home", "/home/deep/q"), move("/home/deep", "/home/deep/c")} {
		wantRefused(t, house, d, impl.MakeBad)
	}
	for _, d := range []deed{move("/b", "/a"), move("/b", "/c"), move("/a/x", "/home/x"), move("/a", "/home"), move("/a", "/b"), move("/a/ab", "/a/x"), move("/a/ab", "/home"), move("/home/deep", "/home")} {
		wantRefused(t, house, d, impl.MakeThere)
	}
}

// A name that is moved to itself is there; a directory is within itself, too, and that is told first.
func TestMakeMoveToItself(t *testing.T) {
	house := houseTree()
	for text, ino := range houseWays() {
		want := impl.MakeThere
		if house.Nodes[ino].Kind == impl.NodeDir {
			want = impl.MakeBad
		}
		if ino == 0 {
			want = impl.MakeNone
		}
		wantRefused(t, house, move(text, text), want)
	}
	wantRefused(t, flat(1), move("/a", "/a"), impl.MakeThere)
	wantRefused(t, chain(2), move("/d", "/d"), impl.MakeBad)
}

func TestMakeDrop(t *testing.T) {
	house := houseTree()
	wantFine(t, house, drop("/b"), func(x *impl.Tree) {
		x.Nodes[0], x.Nodes[4] = dir(10, "a", 1, "c", 4, "home", 7), file(10, "twice")
	})
	wantFine(t, house, drop("/home/deep/b"), func(x *impl.Tree) { x.Nodes[9], x.Nodes[4] = dir(10), file(10, "twice") })
	wantFine(t, house, drop("/a/x"), func(x *impl.Tree) { x.Nodes[1], x.Nodes[6] = dir(10, "ab", 2, "zzzz", 8), file(10, "") })
	wantFine(t, house, drop("/home/x"), func(x *impl.Tree) { x.Nodes[7], x.Nodes[6] = dir(10, "deep", 9), file(10, "") })
	wantFine(t, house, drop("/a/zzzz"), func(x *impl.Tree) { x.Nodes[1], x.Nodes[8] = dir(10, "ab", 2, "x", 6), free() })
	wantFine(t, house, drop("/a/ab"), func(x *impl.Tree) { x.Nodes[1], x.Nodes[2] = dir(10, "x", 6, "zzzz", 8), free() })
}

func TestMakeDropRefused(t *testing.T) {
	house := houseTree()
	for _, p := range []string{"/q", "/a/q", "/q/q", "/b/b", "/a/x/x", "/home/deep/c"} {
		wantRefused(t, house, drop(p), impl.MakeNone)
	}
	for _, p := range []string{"/", "/a", "/home", "/home/deep"} {
		wantRefused(t, house, drop(p), impl.MakeBad)
	}
	wantRefused(t, impl.TreeNew(1), drop("/"), impl.MakeBad)
}

// The file goes with its last name, not with one ahead of it; what is made next has its place, and nothing of what it had.
func TestMakeDropLastName(t *testing.T) {
	x := tree(5, dir(5, "a", 1, "b", 1, "d", 2), file(3, "text"), dir(4, "a", 1))
	steps := []struct {
		d    deed
		want impl.Tree
	}{
		{drop("/b"), tree(6, dir(6, "a", 1, "d", 2), file(6, "text"), dir(4, "a", 1))},
		{drop("/d/a"), tree(7, dir(6, "a", 1, "d", 2), file(7, "text"), dir(7))},
		{drop("/a"), tree(8, dir(8, "d", 2), free(), dir(7))},
		{drop("/d"), tree(9, dir(9), free(), free())},
		{newFile("/z"), tree(10, dir(10, "z", 1), file(10, ""), free())},
		{newDir("/y"), tree(11, dir(11, "y", 2, "z", 1), file(10, ""), dir(11))},
	}
	for _, step := range steps {
		wantDone(t, x, step.d, impl.MakeFine, step.want)
		x = step.want
	}
}

// Where two codes fit, the one that stands first is told.
func TestMakeOrderOfCodes(t *testing.T) {
	house, full := houseTree(), flat(9)
	long := "/a/a/a/a/a/a"
	cases := []struct {
		x    impl.Tree
		d    deed
		code int
	}{
		{house, newKind("/q/x", 3), impl.MakeBad},
		{house, newKind("/", 3), impl.MakeBad},
		{house, newKind("/a", 3), impl.MakeBad},
		{house, newKind("/b/x", 0), impl.MakeBad},
		{full, newKind("/z", 3), impl.MakeBad},
		{full, newKind("/a", 0), impl.MakeBad},
		{full, newFile("/q/x"), impl.MakeNone},
		{full, newFile("/a/x"), impl.MakeNone},
		{full, newFile("/"), impl.MakeNone},
		{full, newFile("/a"), impl.MakeThere},
		{full, newDir("/i"), impl.MakeThere},
		{house, putText("/q", "A"), impl.MakeBad},
		{house, putText("/b/x", "abcdefg"), impl.MakeBad},
		{house, putText("/", "A"), impl.MakeBad},
		{house, link("/a", "/q/x"), impl.MakeNone},
		{house, link("/", "/"), impl.MakeNone},
		{house, link("/a", "/"), impl.MakeNone},
		{house, link("/q", "/a"), impl.MakeNone},
		{house, link("/a", "/b/x"), impl.MakeNone},
		{house, link("/a", "/b"), impl.MakeBad},
		{house, link("/a", "/a"), impl.MakeBad},
		{house, link("/", "/a"), impl.MakeBad},
		{house, move("/", "/"), impl.MakeNone},
		{house, move("/", "/q/x"), impl.MakeNone},
		{house, move("/", "/b/x"), impl.MakeNone},
		{house, move("/q", "/a"), impl.MakeNone},
		{house, move("/q", "/q/x"), impl.MakeNone},
		{house, move("/a", "/a/q/x"), impl.MakeNone},
		{house, move("/a", "/a/x/x"), impl.MakeNone},
		{house, move("/", "/a"), impl.MakeBad},
		{house, move("/a", "/a/ab"), impl.MakeBad},
		{house, move("/home", "/home/deep/b"), impl.MakeBad},
	}
	for _, c := range cases {
		wantRefused(t, c.x, c.d, c.code)
	}
	for _, d := range []deed{newKind(long, 3), newFile(long), putText(long, "A"), link(long, "/q/x"), link("/q", long), link("/a", long), move("/", long), move("/a", long), move(long, "/a"), drop(long)} {
		wantForm(t, house, d)
		wantForm(t, full, d)
	}
}

func TestMakeTurns(t *testing.T) {
	last, none := houseTree(), houseTree()
	last.Now, none.Now = 999, 1000
	for _, d := range everyDeed() {
		got, code := d.do(last)
		if code != impl.MakeFine || got.Now != 1000 || !impl.TreeOk(got) {
			t.Errorf("%v at 999 ends with %d at %d; want 0 at 1000", d, code, got.Now)
		}
		wantForm(t, got, d)
		wantForm(t, none, d)
	}
	wantFine(t, last, newFile("/q"), func(x *impl.Tree) {
		x.Nodes[0], x.Nodes[3] = dir(1000, "a", 1, "b", 4, "c", 4, "home", 7, "q", 3), file(1000, "")
	})
	for _, d := range []deed{newFile("/"), newFile("/a"), newKind("/q", 3), putText("/q", "A"), link("/q", "/y"), move("/a", "/a/q"), drop("/")} {
		wantForm(t, none, d)
	}
	wantRefused(t, last, drop("/"), impl.MakeBad)
}

func TestMakeLongWays(t *testing.T) {
	x := chain(10)
	four, five, six := "/d/d/d/d", "/d/d/d/d/d", "/d/d/d/d/d/d"
	wantFine(t, chain(5), newFile(five), func(x *impl.Tree) { x.Nodes = append(x.Nodes[:4], dir(2, "d", 5), file(2, "")) })
	wantFine(t, chain(6), newDir(four+"/a"), func(x *impl.Tree) {
		x.Nodes = append(x.Nodes[:4], dir(2, "a", 6, "d", 5), dir(1), dir(2))
	})
	wantFine(t, chain(6), drop(five), func(x *impl.Tree) { x.Nodes[4], x.Nodes[5] = dir(2), free() })
	wantFine(t, x, move(five, "/e"), func(x *impl.Tree) {
		x.Nodes[0], x.Nodes[4], x.Nodes[5].At = dir(2, "d", 1, "e", 5), dir(2), 2
	})
	withFile := tree(1, append(chain(5).Nodes, file(1, "f"))...)
	withFile.Nodes[4] = dir(1, "f", 5)
	wantFine(t, withFile, putText(four+"/f", "text"), func(x *impl.Tree) { x.Nodes[5] = file(2, "text") })
	wantFine(t, withFile, link(four+"/f", four+"/g"), func(x *impl.Tree) { x.Nodes[4], x.Nodes[5] = dir(2, "f", 5, "g", 5), file(2, "f") })
	wantRefused(t, x, newFile(five), impl.MakeThere)
	wantRefused(t, x, drop(five), impl.MakeBad)
	for _, d := range []deed{newFile(six), newDir(six), newFile(six + "/d"), putText(six, ""), link(six, "/e"), link("/d", six), move(six, "/e"), move("/d", six), drop(six), drop(six + "/d")} {
		wantForm(t, x, d)
		wantForm(t, chain(5), d)
	}
}

// No code speaks of what lies deeper than a way is long once a directory was moved.
func TestMakeMoveDeeperThanWays(t *testing.T) {
	x := tree(3, dir(3, "a", 1, "m", 5), dir(1, "b", 2), dir(1, "c", 3), dir(1, "d", 4), dir(1), dir(2, "n", 6), dir(2, "f", 7), file(1, "low"))
	wantFine(t, x, move("/m", "/a/b/c/d/m"), func(x *impl.Tree) {
		x.Nodes[0], x.Nodes[4], x.Nodes[5].At = dir(4, "a", 1), dir(4, "m", 5), 4
	})
}

func TestMakeListsThatAreNoWay(t *testing.T) {
	wrong := [][]string{
		{""}, {"a", ""}, {"", "a"}, {"A"}, {"a", "B"}, {"abcde"}, {"a", "abcde"}, {"/"}, {"/a"}, {"a/ab"}, {"a/"}, {" "}, {"a "},
		{"\x00"}, {"\xff"}, {"\u00e9"}, {"a1"}, slices.Repeat([]string{"a"}, 6), slices.Repeat([]string{"a"}, 1<<16), {strings.Repeat("a", 1<<20)},
	}
	house := houseTree()
	for _, w := range wrong {
		for _, d := range []deed{
			{what: "new", p: w, kind: impl.NodeFile}, {what: "new", p: w, kind: impl.NodeDir}, {what: "new", p: w, kind: 7},
			{what: "text", p: w, text: "new"}, {what: "text", p: w, text: "A"}, {what: "drop", p: w},
			{what: "link", p: w, q: []string{"q"}}, {what: "link", p: []string{"b"}, q: w}, {what: "link", p: []string{"q"}, q: w}, {what: "link", p: w, q: w},
			{what: "move", p: w, q: []string{"q"}}, {what: "move", p: []string{"b"}, q: w}, {what: "move", p: nil, q: w}, {what: "move", p: w, q: w},
		} {
			wantForm(t, house, d)
		}
	}
}

// treesNotOk is trees that are not ok, each for a reason of its own.
func treesNotOk() []impl.Tree {
	many := tree(1, append([]impl.Node{dir(1)}, make([]impl.Node, 1<<12)...)...)
	return []impl.Tree{
		{}, {Now: 1}, {Nodes: []impl.Node{}, Now: 1}, tree(1, free()), tree(1, file(1, "a")), tree(0, dir(1)), tree(1001, dir(1)), tree(-1, dir(1)),
		tree(1, dir(2)), tree(1, dir(0)), tree(1, dir(1), file(1, "")), tree(1, dir(1), dir(1, "a", 1)), tree(1, dir(1, "a", 0)), tree(1, dir(1, "a", 1)),
		tree(1, dir(1, "a", -1)), tree(1, dir(1, "a", 1), free()), tree(1, dir(1, "a", 1, "b", 1), dir(1)), tree(1, dir(1, "b", 1, "a", 1), file(1, "")),
		tree(1, dir(1, "a", 1, "a", 1), file(1, "")), tree(1, dir(1, "a", 1), file(1, "A")), tree(1, dir(1, "a", 1), file(1, "abcdefg")),
		tree(1, dir(1), impl.Node{Kind: 3, At: 1}), tree(1, dir(1), impl.Node{At: 1}), tree(9, differing()...), chain(11), many,
		tree(1, impl.Node{Kind: impl.NodeDir, Names: []string{"b"}, At: 1}), tree(1, impl.Node{Kind: impl.NodeDir, Kids: []int{1}, At: 1}, file(1, "")),
		bent(func(x *impl.Tree) { x.Nodes[9].At = 10 }), bent(func(x *impl.Tree) { x.Nodes[5].Text = "a" }), bent(func(x *impl.Tree) { x.Nodes[0].Kids[3] = 1 }),
	}
}

func TestMakeTreesThatAreNotOk(t *testing.T) {
	deeds := append(everyDeed(), newFile("/"), newKind("/q", 9), putText("/b", "A"), link("/", "/"), move("/", "/q"), move("/a", "/a"), drop("/"), drop("/a/x"))
	for _, x := range treesNotOk() {
		for _, d := range deeds {
			wantForm(t, x, d)
		}
	}
}

func TestMakeWaysOfNoNames(t *testing.T) {
	for _, none := range [][]string{nil, {}} {
		house := houseTree()
		wantRefused(t, house, deed{what: "new", p: none, kind: impl.NodeDir}, impl.MakeNone)
		wantRefused(t, house, deed{what: "text", p: none, text: "a"}, impl.MakeBad)
		wantRefused(t, house, deed{what: "link", p: none, q: []string{"q"}}, impl.MakeBad)
		wantRefused(t, house, deed{what: "link", p: []string{"b"}, q: none}, impl.MakeNone)
		wantRefused(t, house, deed{what: "move", p: none, q: []string{"q"}}, impl.MakeBad)
		wantRefused(t, house, deed{what: "move", p: []string{"b"}, q: none}, impl.MakeNone)
		wantRefused(t, house, deed{what: "drop", p: none}, impl.MakeBad)
	}
}

// Nothing bounds how many names a directory has.
func TestMakeVeryManyNames(t *testing.T) {
	x := tree(1, dir(1), file(1, "all"))
	for a := 'b'; a <= 'y'; a++ {
		for b := 'a'; b <= 'z'; b++ {
			x.Nodes[0].Names = append(x.Nodes[0].Names, string(a)+string(b))
			x.Nodes[0].Kids = append(x.Nodes[0].Kids, 1)
		}
	}
	for _, name := range []string{"a", "m", "mmm", "zzzz"} {
		wantFine(t, x, link("/bb", "/"+name), func(want *impl.Tree) {
			root := &want.Nodes[0]
			root.Names = slices.Sorted(slices.Values(append(root.Names, name)))
			root.Kids, root.At, want.Nodes[1].At = append(root.Kids, 1), 2, 2
		})
	}
	for _, name := range []string{"ba", "mm", "yz"} {
		wantFine(t, x, drop("/"+name), func(want *impl.Tree) {
			root := &want.Nodes[0]
			at := slices.Index(root.Names, name)
			root.Names, root.Kids = slices.Delete(root.Names, at, at+1), root.Kids[1:]
			root.At, want.Nodes[1].At = 2, 2
		})
	}
}

// span is where a list lies in memory, its spare room too.
type span struct {
	what       string
	start, end uintptr
}

func spanOf[E any](what string, list []E) span {
	start := uintptr(unsafe.Pointer(unsafe.SliceData(list)))
	return span{what, start, start + uintptr(cap(list))*unsafe.Sizeof(*new(E))}
}

func textSpan(what string, text string) span {
	start := uintptr(unsafe.Pointer(unsafe.StringData(text)))
	return span{what, start, start + uintptr(len(text))}
}

func spansOverlap(a, b span) bool { return a.start < b.end && b.start < a.end }

// listSpans is where the lists of a tree lie, those in its spare room too.
func listSpans(what string, x impl.Tree) []span {
	all := []span{spanOf(what+" Nodes", x.Nodes)}
	for ino, n := range x.Nodes[:cap(x.Nodes)] {
		all = append(all, spanOf(fmt.Sprint(what, " Names of ", ino), n.Names), spanOf(fmt.Sprint(what, " Kids of ", ino), n.Kids))
	}
	return all
}

// texts is all texts of a tree.
func texts(x impl.Tree) (all []string) {
	for _, n := range x.Nodes {
		all = append(append(all, n.Text), n.Names...)
	}
	return all
}

// ownTexts gives a tree and a deed texts that lie where no other text does, as those that are written out in a test do not.
func ownTexts(x impl.Tree, d deed) (impl.Tree, deed) {
	own := func(list []string) []string {
		list = slices.Clone(list)
		for i := range list {
			list[i] = strings.Clone(list[i])
		}
		return list
	}
	x = cloneTree(x)
	for ino, n := range x.Nodes {
		x.Nodes[ino].Text, x.Nodes[ino].Names = strings.Clone(n.Text), own(n.Names)
	}
	d.p, d.q, d.text = own(d.p), own(d.q), strings.Clone(d.text)
	return x, d
}

// memoryDeeds is deeds with each code, of which most share names with the tree.
func memoryDeeds() []deed {
	return append(everyDeed(),
		newFile("/a/ab/q"), newDir("/home/deep/a"), link("/b", "/a/a"), move("/b", "/home/deep/c"), move("/b", "/aa"), drop("/c"), drop("/a/zzzz"), drop("/home/deep/b"),
		newKind("/q", 5), newFile("/q/q"), newFile("/a"), newFile("/"), putText("/b", "A"), putText("/a", "a"), link("/a", "/q"), link("/b", "/c"),
		move("/a", "/a/q"), move("/b", "/b"), move("/q", "/y"), drop("/a"), drop("/q"), drop("/"), newFile("/A"))
}

func memoryTrees() []impl.Tree {
	return []impl.Tree{houseTree(), hollow(houseTree()), impl.TreeNew(1), flat(9), flat(3), chain(10), {}, bent(func(x *impl.Tree) { x.Now = 1000 }), bent(func(x *impl.Tree) { x.Now = 0 })}
}

func TestMakeAnswersAreNewMemory(t *testing.T) {
	for _, given := range memoryTrees() {
		for _, d := range memoryDeeds() {
			x, d := ownTexts(given, d)
			x, _ = roomy(x)
			got, _ := d.do(x)
			lists := listSpans("the answer's", got)
			for i, a := range lists {
				for _, b := range lists[i+1:] {
					if spansOverlap(a, b) {
						t.Errorf("%v: %s share memory with %s", d, a.what, b.what)
					}
				}
				for _, b := range append(listSpans("the tree's", x), spanOf("the first way", d.p), spanOf("the second way", d.q)) {
					if spansOverlap(a, b) {
						t.Errorf("%v: %s share memory with %s", d, a.what, b.what)
					}
				}
			}
			wantOwnTexts(t, got, d, append(append(append(texts(x), d.text), d.p...), d.q...))
		}
	}
}

// wantOwnTexts asks that no text of an answer lies where one that was given does.
func wantOwnTexts(t *testing.T, got impl.Tree, d deed, given []string) {
	t.Helper()
	for _, a := range texts(got) {
		for _, b := range given {
			if spansOverlap(textSpan("", a), textSpan("", b)) {
				t.Errorf("%v: the text %q of the answer shares memory with one that was given", d, a)
			}
		}
	}
}

func TestMakeWritesIntoNoArgument(t *testing.T) {
	for _, given := range memoryTrees() {
		for _, d := range memoryDeeds() {
			x, room := roomy(given)
			p, allOfP := withRoom(d.p...)
			q, allOfQ := withRoom(d.q...)
			was, wasP, wasQ := room(), slices.Clone(allOfP), slices.Clone(allOfQ)
			d.p, d.q = p, q
			got, _ := d.do(x)
			if room() != was || !slices.Equal(allOfP, wasP) || !slices.Equal(allOfQ, wasQ) {
				t.Errorf("%v wrote into what was given", d)
			}
			overwrite(got)
			if room() != was || !slices.Equal(allOfP, wasP) || !slices.Equal(allOfQ, wasQ) {
				t.Errorf("what is written into the answer of %v shows in what was given", d)
			}
		}
	}
}

// No call leaves anything for the next one, whatever becomes of its answer.
func TestMakeKeepsNothing(t *testing.T) {
	for _, x := range memoryTrees() {
		for _, d := range memoryDeeds() {
			first, firstCode := d.do(x)
			was := listed(first)
			second, secondCode := d.do(x)
			overwrite(first)
			third, thirdCode := d.do(x)
			if listed(second) != was || listed(third) != was || firstCode != secondCode || firstCode != thirdCode {
				t.Errorf("%v answers %d, %d and %d:\n%s%s%s", d, firstCode, secondCode, thirdCode, was, listed(second), listed(third))
			}
		}
	}
}

func TestMakeEmptyListsAreNilLists(t *testing.T) {
	for _, x := range memoryTrees() {
		for _, d := range memoryDeeds() {
			a, codeA := d.do(x)
			b, codeB := d.do(hollow(x))
			if codeA != codeB || listed(a) != listed(b) {
				t.Errorf("%v hangs on empty lists: %d and %d\n%s%s", d, codeA, codeB, listed(a), listed(b))
			}
		}
	}
}
