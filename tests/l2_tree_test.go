package tests

import (
	"fmt"
	"slices"
	"strings"
	"testing"

	"loop.example/cellarage/impl"
)

// free, file and dir are places; dir takes its names and Kids in turns.
func free() impl.Node { return impl.Node{} }

func file(at int, text string) impl.Node {
	return impl.Node{Kind: impl.NodeFile, Text: text, At: at}
}

func dir(at int, namesAndKids ...any) impl.Node {
	n := impl.Node{Kind: impl.NodeDir, At: at}
	for i := 0; i < len(namesAndKids); i += 2 {
		n.Names = append(n.Names, namesAndKids[i].(string))
		n.Kids = append(n.Kids, namesAndKids[i+1].(int))
	}
	return n
}

func tree(now int, nodes ...impl.Node) impl.Tree { return impl.Tree{Nodes: nodes, Now: now} }

// houseTree has files of one name, of two in one directory and of two in two, directories within directories, and free places in between.
func houseTree() impl.Tree {
	return tree(9,
		dir(9, "a", 1, "b", 4, "c", 4, "home", 7),
		dir(3, "ab", 2, "x", 6, "zzzz", 8),
		dir(4),
		free(),
		file(5, "twice"),
		free(),
		file(1, ""),
		dir(9, "deep", 9, "x", 6),
		file(2, "z"),
		dir(8, "b", 4))
}

// houseWays is where each way of houseTree leads.
func houseWays() map[string]int {
	return map[string]int{
		"/": 0, "/a": 1, "/a/ab": 2, "/a/x": 6, "/a/zzzz": 8, "/b": 4, "/c": 4,
		"/home": 7, "/home/deep": 9, "/home/deep/b": 4, "/home/x": 6,
	}
}

// cloneNode and cloneTree share nothing with what they were made of, nil and empty lists staying what they are.
func cloneNode(n impl.Node) impl.Node {
	n.Names, n.Kids = slices.Clone(n.Names), slices.Clone(n.Kids)
	return n
}

func cloneTree(t impl.Tree) impl.Tree {
	t.Nodes = slices.Clone(t.Nodes)
	for i := range t.Nodes {
		t.Nodes[i] = cloneNode(t.Nodes[i])
	}
	return t
}

// listed is a text that tells trees apart in every part, and takes nil and empty lists for one value.
func listed(t impl.Tree) string {
	var b strings.Builder
	fmt.Fprintf(&b, "now %d\n", t.Now)
	for i, n := range t.Nodes {
		fmt.Fprintf(&b, "%d: kind %d, text %q, names %q, kids %v, at %d\n", i, n.Kind, n.Text, n.Names, n.Kids, n.At)
	}
	return b.String()
}

// modelOk tells TreeOk by other means: a matrix of who leads to whom, closed over all places.
func modelOk(t impl.Tree) bool {
	size := len(t.Nodes)
	if size == 0 || size > 10 || t.Now < 1 || t.Now > 1000 || t.Nodes[0].Kind != 2 {
		return false
	}
	leads := make([][]bool, size)
	count := make([]int, size)
	for i, n := range t.Nodes {
		leads[i] = make([]bool, size)
		leads[i][i] = true
		if !modelPlaceOk(t, n) {
			return false
		}
		for _, kid := range n.Kids {
			leads[i][kid] = true
			count[kid]++
		}
	}
	for via := range size {
		for from := range size {
			for to := range size {
				leads[from][to] = leads[from][to] || leads[from][via] && leads[via][to]
			}
		}
	}
	for i, n := range t.Nodes {
		if leads[0][i] != (n.Kind != 0) || i > 0 && n.Kind == 2 && count[i] != 1 {
			return false
		}
	}
	return true
}

func modelPlaceOk(t impl.Tree, n impl.Node) bool {
	if n.Kind == 0 {
		return n.Text == "" && len(n.Names)+len(n.Kids) == 0 && n.At == 0
	}
	if n.At < 1 || n.At > t.Now || n.Kind != 1 && n.Kind != 2 {
		return false
	}
	if n.Kind == 1 {
		return len(n.Text) <= 6 && strings.Trim(n.Text, "abcdefghijklmnopqrstuvwxyz") == "" && len(n.Names)+len(n.Kids) == 0
	}
	sorted := slices.Compact(slices.Sorted(slices.Values(n.Names)))
	if n.Text != "" || !slices.Equal(sorted, n.Names) || len(n.Kids) != len(n.Names) {
		return false
	}
	for i, kid := range n.Kids {
		if !wayText.MatchString("/"+n.Names[i]) || strings.Contains(n.Names[i], "/") || n.Names[i] == "" {
			return false
		}
		if kid <= 0 || kid >= len(t.Nodes) || t.Nodes[kid].Kind == 0 {
			return false
		}
	}
	return true
}

// modelFind walks an ok tree by a plain search of each name.
func modelFind(t impl.Tree, p []string) int {
	at := 0
	for _, name := range p {
		i := slices.Index(t.Nodes[at].Names, name)
		if i < 0 {
			return -1
		}
		at = t.Nodes[at].Kids[i]
	}
	return at
}

// wantOk asks that a tree is ok.
func wantOk(t *testing.T, what string, x impl.Tree) {
	t.Helper()
	if !modelOk(x) {
		t.Fatalf("%s: the test's own tree is not ok:\n%s", what, listed(x))
	}
	if !impl.TreeOk(x) {
		t.Errorf("%s: TreeOk = false; want true\n%s", what, listed(x))
	}
}

// wantNotOk asks that a tree is not ok, and for the fixed answers then, whatever is asked of it.
func wantNotOk(t *testing.T, what string, x impl.Tree) {
	t.Helper()
	if impl.TreeOk(x) {
		t.Errorf("%s: TreeOk = true; want false\n%s", what, listed(x))
	}
	for ino := -1; ino <= len(x.Nodes)+1; ino++ {
		if got := impl.TreeRefs(x, ino); got != 0 {
			t.Errorf("%s: TreeRefs of %d = %d; want 0", what, ino, got)
		}
	}
	for _, p := range [][]string{nil, {}, {"a"}, {"b"}, {"a", "ab"}, {"home"}, {"home", "deep"}, {"A"}} {
		if got := impl.TreeFind(x, p); got != -1 {
			t.Errorf("%s: TreeFind of %q = %d; want -1", what, p, got)
		}
	}
}

// bent is houseTree, bent by f.
func bent(f func(x *impl.Tree)) impl.Tree {
	x := houseTree()
	f(&x)
	return x
}

func TestTreeBounds(t *testing.T) {
	got := [6]int{impl.NodeFree, impl.NodeFile, impl.NodeDir, impl.TextMax, impl.NodeMost, impl.TimeMost}
	if want := [6]int{0, 1, 2, 6, 10, 1000}; got != want {
		t.Errorf("kinds and bounds are %v; want %v", got, want)
	}
}

func TestTreeNew(t *testing.T) {
	for _, now := range []int{1, 2, 7, 999, 1000} {
		got := impl.TreeNew(now)
		if want := tree(now, dir(now)); listed(got) != listed(want) {
			t.Errorf("TreeNew(%d) is\n%swant\n%s", now, listed(got), listed(want))
		}
		wantOk(t, "TreeNew", got)
		if impl.TreeFind(got, nil) != 0 || impl.TreeFind(got, []string{"a"}) != -1 || impl.TreeRefs(got, 0) != 0 {
			t.Errorf("TreeNew(%d): the root is not found, or something else is", now)
		}
	}
	const most = int(^uint(0) >> 1)
	for _, now := range []int{0, -1, -1000, 1001, 1002, 1 << 20, most, -most - 1} {
		if got := impl.TreeNew(now); listed(got) != listed(impl.Tree{}) {
			t.Errorf("TreeNew(%d) is\n%swant nothing", now, listed(got))
		}
	}
}

func TestTreeHouse(t *testing.T) {
	x := houseTree()
	wantOk(t, "house", x)
	ways := houseWays()
	names := []string{"a", "ab", "b", "c", "deep", "home", "x", "zzzz", "q"}
	found := 0
	for _, p := range waysUpTo(names, 4) {
		want, there := ways[impl.PathText(p)]
		if !there {
			want = -1
		} else {
			found++
		}
		if got := impl.TreeFind(x, p); got != want {
			t.Errorf("TreeFind(%s) = %d; want %d", impl.PathText(p), got, want)
		}
	}
	if found != len(ways) {
		t.Errorf("%d of %d ways were asked for", found, len(ways))
	}
	for ino, want := range []int{0, 1, 1, 0, 3, 0, 2, 1, 1, 1} {
		if got := impl.TreeRefs(x, ino); got != want {
			t.Errorf("TreeRefs(%d) = %d; want %d", ino, got, want)
		}
	}
	const most = int(^uint(0) >> 1)
	for _, ino := range []int{-1, -2, 10, 11, 1000, most, -most - 1} {
		if got := impl.TreeRefs(x, ino); got != 0 {
			t.Errorf("TreeRefs(%d) = %d; want 0", ino, got)
		}
	}
}

func TestTreeFilesOfSeveralNames(t *testing.T) {
	inOne := tree(3, dir(3, "a", 1, "b", 1), file(2, "one"))
	inTwo := tree(3, dir(3, "a", 1, "d", 2), file(2, "one"), dir(3, "a", 1))
	four := tree(3, dir(3, "a", 2, "b", 2, "d", 1), dir(3, "a", 2, "z", 2), file(3, ""))
	for _, c := range []struct {
		x         impl.Tree
		ino, refs int
		ways      []string
	}{
		{inOne, 1, 2, []string{"/a", "/b"}},
		{inTwo, 1, 2, []string{"/a", "/d/a"}},
		{four, 2, 4, []string{"/a", "/b", "/d/a", "/d/z"}},
	} {
		wantOk(t, "several names", c.x)
		if got := impl.TreeRefs(c.x, c.ino); got != c.refs {
			t.Errorf("TreeRefs = %d; want %d\n%s", got, c.refs, listed(c.x))
		}
		for _, text := range c.ways {
			p, _ := impl.PathRead(text)
			if got := impl.TreeFind(c.x, p); got != c.ino {
				t.Errorf("TreeFind(%s) = %d; want %d\n%s", text, got, c.ino, listed(c.x))
			}
		}
	}
}

// chain is directories within each other, so many with the root.
func chain(size int) impl.Tree {
	x := tree(1)
	for i := range size - 1 {
		x.Nodes = append(x.Nodes, dir(1, "d", i+1))
	}
	x.Nodes = append(x.Nodes, dir(1))
	return x
}

func TestTreeManyPlaces(t *testing.T) {
	wantNotOk(t, "no place", tree(1))
	wantNotOk(t, "no place", impl.Tree{Nodes: []impl.Node{}, Now: 1})
	wantNotOk(t, "nothing", impl.Tree{})
	wantOk(t, "1 place", tree(1, dir(1)))
	wantOk(t, "10 places", chain(10))
	wantNotOk(t, "11 places", chain(11))
	nineFree := tree(1, append([]impl.Node{dir(1)}, make([]impl.Node, 9)...)...)
	wantOk(t, "9 free places", nineFree)
	nineFree.Nodes = append(nineFree.Nodes, free())
	wantNotOk(t, "10 free places", nineFree)
	wantNotOk(t, "very many places", tree(1, append([]impl.Node{dir(1)}, make([]impl.Node, 1<<16)...)...))
}

// Nothing bounds how deep a tree is but its places; a way has at most 5 names.
func TestTreeDeeperThanWays(t *testing.T) {
	x := chain(10)
	for long := range 12 {
		want := long
		if long > 5 {
			want = -1
		}
		if got := impl.TreeFind(x, slices.Repeat([]string{"d"}, long)); got != want {
			t.Errorf("TreeFind of %d names = %d; want %d", long, got, want)
		}
	}
	for ino := range 10 {
		if got := impl.TreeRefs(x, ino); got != min(ino, 1) {
			t.Errorf("TreeRefs(%d) = %d; want %d", ino, got, min(ino, 1))
		}
	}
}

func TestTreeTurns(t *testing.T) {
	const most = int(^uint(0) >> 1)
	for _, now := range []int{1, 2, 500, 999, 1000} {
		wantOk(t, "Now", tree(now, dir(1)))
		wantOk(t, "Now", tree(now, dir(now)))
		for _, at := range []int{-most - 1, -1, 0, now + 1, now + 1000, most} {
			wantNotOk(t, "At of the root", tree(now, dir(at)))
			wantNotOk(t, "At of a file", tree(now, dir(1, "a", 1), file(at, "a")))
			wantNotOk(t, "At of a directory", tree(now, dir(1, "a", 1), dir(at)))
		}
		for _, at := range []int{1, now} {
			wantOk(t, "At of a file", tree(now, dir(1, "a", 1), file(at, "a")))
			wantOk(t, "At of a directory", tree(now, dir(1, "a", 1), dir(at)))
		}
	}
	for _, now := range []int{-most - 1, -1, 0, 1001, 1002, most} {
		wantNotOk(t, "Now", tree(now, dir(1)))
		wantNotOk(t, "Now and At", tree(now, dir(now)))
	}
}

func TestTreeTexts(t *testing.T) {
	of := func(text string) impl.Tree { return tree(1, dir(1, "a", 1), file(1, text)) }
	for _, text := range []string{"", "a", "z", "hello", "abcdef", "zzzzzz", "aaaaaa"} {
		wantOk(t, "text "+text, of(text))
	}
	wrong := []string{
		"abcdefg", "zzzzzzz", strings.Repeat("a", 1<<20), "A", "aB", "hello1", " ", "a ", " a", "a b", "\n", "a\n",
		"'", "a'b", "`", "{", "/", "\x00", "\x00a", "\u00e9", "a\u0430", "\xff", "a\x80",
	}
	for _, text := range wrong {
		wantNotOk(t, fmt.Sprintf("text %q", text[:min(len(text), 20)]), of(text))
	}
	for sign := range 256 {
		for place := range 6 {
			text := []byte("mmmmmm")
			text[place] = byte(sign)
			if got, want := impl.TreeOk(of(string(text))), 'a' <= sign && sign <= 'z'; got != want {
				t.Errorf("TreeOk with the text %q = %v; want %v", text, got, want)
			}
		}
	}
}

func TestTreeRoot(t *testing.T) {
	wantNotOk(t, "the root is free", tree(1, free()))
	wantNotOk(t, "the root is free, with a place behind it", tree(1, free(), dir(1)))
	wantNotOk(t, "the root is a file", tree(1, file(1, "a")))
	wantNotOk(t, "the root is of no kind", tree(1, impl.Node{Kind: 3, At: 1}))
	wantNotOk(t, "the house's root is free", bent(func(x *impl.Tree) { x.Nodes[0] = free() }))
	wantNotOk(t, "the house's root is a file", bent(func(x *impl.Tree) { x.Nodes[0] = file(9, "") }))
}

func TestTreeKinds(t *testing.T) {
	const most = int(^uint(0) >> 1)
	for _, kind := range []int{-most - 1, -1, 3, 4, 256, 257, 258, 1 << 32, most} {
		wantNotOk(t, "kind of the root", tree(1, impl.Node{Kind: kind, At: 1}))
		wantNotOk(t, "kind of a place", tree(1, dir(1, "a", 1), impl.Node{Kind: kind, At: 1}))
		wantNotOk(t, "kind of an empty place", tree(1, dir(1, "a", 1), impl.Node{Kind: kind}))
		wantNotOk(t, "kind of a place that nobody reaches", tree(1, dir(1), impl.Node{Kind: kind}))
	}
}

func TestTreeKids(t *testing.T) {
	const most = int(^uint(0) >> 1)
	for _, kid := range []int{-most - 1, -2, -1, 0, 3, 5, 10, 11, most} {
		for ino, n := range houseTree().Nodes {
			for i := range n.Kids {
				wantNotOk(t, fmt.Sprintf("the kid %d of %d is %d", i, ino, kid), bent(func(x *impl.Tree) { x.Nodes[ino].Kids[i] = kid }))
			}
		}
		wantNotOk(t, "one kid more", bent(func(x *impl.Tree) {
			x.Nodes[2] = dir(4, "q", kid)
		}))
	}
	wantNotOk(t, "the root is its own kid", tree(1, dir(1, "a", 0)))
	wantNotOk(t, "a free place is a kid", tree(1, dir(1, "a", 1), free()))
	wantNotOk(t, "a place past the end is a kid", tree(1, dir(1, "a", 1)))
	wantNotOk(t, "the root is a kid of another", tree(1, dir(1, "a", 1), dir(1, "a", 0)))
}

func TestTreeNames(t *testing.T) {
	of := func(names ...string) impl.Tree {
		x := tree(1, dir(1), file(1, ""))
		x.Nodes[0].Names = names
		x.Nodes[0].Kids = slices.Repeat([]int{1}, len(names))
		return x
	}
	for _, names := range [][]string{{"a"}, {"zzzz"}, {"a", "b"}, {"a", "aa", "ab", "b"}, {"abc", "abcd", "abd", "b"}, {"y", "z"}} {
		wantOk(t, fmt.Sprintf("names %q", names), of(names...))
	}
	wrong := [][]string{
		{"b", "a"}, {"aa", "a"}, {"b", "aa"}, {"a", "c", "b"}, {"b", "a", "c"}, {"a", "ab", "aa"},
		{"a", "a"}, {"a", "b", "b"}, {"a", "a", "b"}, {"a", "b", "a"},
		{""}, {"", "a"}, {"abcde"}, {"a", "abcde"}, {"A"}, {"A", "a"}, {"a", "b1"}, {"a", "{"}, {"a/b"}, {"/"}, {"/a"},
		{" "}, {"a", "b "}, {"\x00"}, {"\u00e9"}, {"\xff"}, {"a", "b", "zzzzz"},
	}
	for _, names := range wrong {
		wantNotOk(t, fmt.Sprintf("names %q", names), of(names...))
	}
}

func TestTreeNamesAndKidsNotAsMany(t *testing.T) {
	for ino, n := range houseTree().Nodes {
		if n.Kind != impl.NodeDir {
			continue
		}
		wantNotOk(t, "one name more", bent(func(x *impl.Tree) { x.Nodes[ino].Names = append(x.Nodes[ino].Names, "zzzz") }))
		wantNotOk(t, "one name more", bent(func(x *impl.Tree) { x.Nodes[ino].Names = append([]string{"a"}, x.Nodes[ino].Names...) }))
		wantNotOk(t, "one kid more, a file", bent(func(x *impl.Tree) { x.Nodes[ino].Kids = append(x.Nodes[ino].Kids, 4) }))
		if len(n.Names) == 0 {
			continue
		}
		wantNotOk(t, "one name less", bent(func(x *impl.Tree) { x.Nodes[ino].Names = x.Nodes[ino].Names[1:] }))
		wantNotOk(t, "one kid less", bent(func(x *impl.Tree) { x.Nodes[ino].Kids = x.Nodes[ino].Kids[1:] }))
		wantNotOk(t, "no names", bent(func(x *impl.Tree) { x.Nodes[ino].Names = nil }))
		wantNotOk(t, "no kids", bent(func(x *impl.Tree) { x.Nodes[ino].Kids = nil }))
	}
	// All is reached by Kids in these: what parts them from an ok tree is the number of names alone.
	wantNotOk(t, "a kid without a name", tree(1, impl.Node{Kind: impl.NodeDir, Kids: []int{1}, At: 1}, file(1, "")))
	wantNotOk(t, "a name without a kid", tree(1, impl.Node{Kind: impl.NodeDir, Names: []string{"a"}, At: 1}))
	wantNotOk(t, "two kids, one name", tree(1, impl.Node{Kind: impl.NodeDir, Names: []string{"a"}, Kids: []int{1, 1}, At: 1}, file(1, "")))
	wantNotOk(t, "one kid, two names", tree(1, impl.Node{Kind: impl.NodeDir, Names: []string{"a", "b"}, Kids: []int{1}, At: 1}, file(1, "")))
}

func TestTreeFreePlaces(t *testing.T) {
	for _, n := range []impl.Node{
		{Text: "a"}, {Text: " "}, {Names: []string{"a"}}, {Names: []string{""}}, {Kids: []int{1}}, {Kids: []int{0}}, {At: 1}, {At: -1},
		{Names: []string{"a"}, Kids: []int{4}}, {Names: []string{"a"}, Kids: []int{4}, At: 1},
	} {
		wantNotOk(t, "a free place that is not empty", bent(func(x *impl.Tree) { x.Nodes[5] = n }))
		wantNotOk(t, "a free place that is not empty", tree(1, dir(1), n))
		wantNotOk(t, "a free place that is not empty and is a kid", tree(1, dir(1, "a", 1), n))
	}
	wantOk(t, "a free place at the end", tree(1, dir(1), free()))
	wantOk(t, "a free place in between", tree(1, dir(1, "a", 2), free(), file(1, "")))
}

func TestTreeFilesAndDirectories(t *testing.T) {
	of := func(n impl.Node) impl.Tree { return tree(1, dir(1, "a", 1, "b", 2), n, file(1, "")) }
	wantOk(t, "a file", of(file(1, "a")))
	wantOk(t, "a directory", of(dir(1, "a", 2)))
	wantNotOk(t, "a file with Names", of(impl.Node{Kind: impl.NodeFile, Names: []string{"a"}, At: 1}))
	wantNotOk(t, "a file with Kids", of(impl.Node{Kind: impl.NodeFile, Kids: []int{2}, At: 1}))
	wantNotOk(t, "a file with both", of(impl.Node{Kind: impl.NodeFile, Names: []string{"a"}, Kids: []int{2}, At: 1}))
	wantNotOk(t, "a directory with a Text", of(impl.Node{Kind: impl.NodeDir, Text: "a", At: 1}))
	wantNotOk(t, "a directory with a Text and a name", of(impl.Node{Kind: impl.NodeDir, Text: "a", Names: []string{"a"}, Kids: []int{2}, At: 1}))
	wantNotOk(t, "the root with a Text", tree(1, impl.Node{Kind: impl.NodeDir, Text: "a", At: 1}))
}

func TestTreeReach(t *testing.T) {
	wantNotOk(t, "a file that nobody reaches", tree(1, dir(1), file(1, "")))
	wantNotOk(t, "a directory that nobody reaches", tree(1, dir(1), dir(1)))
	wantNotOk(t, "a file beside one that is reached", tree(1, dir(1, "a", 1), file(1, ""), file(1, "")))
	wantNotOk(t, "a directory that leads to itself", tree(1, dir(1), dir(1, "a", 1)))
	wantNotOk(t, "a directory that leads to itself twice", tree(1, dir(1), dir(1, "a", 1, "b", 1)))
	wantNotOk(t, "a directory that leads to itself, beside others", bent(func(x *impl.Tree) { x.Nodes[5] = dir(1, "a", 5) }))
	wantNotOk(t, "two that lead to each other", tree(1, dir(1), dir(1, "a", 2), dir(1, "a", 1)))
	wantNotOk(t, "two that lead to each other, and to a file that is reached", tree(1, dir(1, "f", 3), dir(1, "a", 2, "f", 3), dir(1, "a", 1), file(1, "")))
	wantNotOk(t, "three that lead to each other", tree(1, dir(1), dir(1, "a", 2), dir(1, "a", 3), dir(1, "a", 1)))
	wantNotOk(t, "a file that one reaches whom nobody reaches", tree(1, dir(1), dir(1, "a", 1, "f", 2), file(1, "")))
	wantNotOk(t, "one that is reached leads to itself", tree(1, dir(1, "a", 1), dir(1, "a", 1)))
	wantNotOk(t, "one leads to what it is in", tree(1, dir(1, "a", 1), dir(1, "a", 2), dir(1, "a", 1)))
	wantNotOk(t, "two names in the root", tree(1, dir(1, "a", 1, "b", 1), dir(1)))
	wantNotOk(t, "two names in two directories", tree(1, dir(1, "a", 1, "b", 2), dir(1, "c", 3), dir(1, "c", 3), dir(1)))
	wantNotOk(t, "three names", tree(1, dir(1, "a", 1, "b", 1, "c", 1), dir(1)))
	wantOk(t, "the same, a file", tree(1, dir(1, "a", 1, "b", 1, "c", 1), file(1, "")))
	for _, ino := range []int{1, 2, 4, 6, 7, 8, 9} {
		wantNotOk(t, "what is reached is free", bent(func(x *impl.Tree) { x.Nodes[ino] = free() }))
	}
}

// places is all that may stand at a place of a small tree: free, a file, or a directory with at most two names that lead to one of kids.
func places(kids []int) []impl.Node {
	all := []impl.Node{free(), file(1, ""), dir(1)}
	for _, first := range kids {
		all = append(all, dir(1, "a", first), dir(1, "b", first))
		for _, second := range kids {
			all = append(all, dir(1, "a", first, "b", second))
		}
	}
	return all
}

// eachTree calls f with each tree of so many places out of these; f does not keep it.
func eachTree(size int, from []impl.Node, f func(x impl.Tree)) {
	x := tree(1, make([]impl.Node, size)...)
	var fill func(at int)
	fill = func(at int) {
		if at == size {
			f(x)
			return
		}
		for _, n := range from {
			x.Nodes[at] = n
			fill(at + 1)
		}
	}
	fill(0)
}

// wantAsModel asks that a tree answers what the model answers, and promise 2 of it.
func wantAsModel(t *testing.T, x impl.Tree, ways [][]string) (ok bool) {
	t.Helper()
	ok = modelOk(x)
	if got := impl.TreeOk(x); got != ok {
		t.Fatalf("TreeOk = %v; want %v\n%s", got, ok, listed(x))
	}
	refs := make([]int, len(x.Nodes))
	for _, p := range ways {
		want := -1
		if ok {
			want = modelFind(x, p)
		}
		if got := impl.TreeFind(x, p); got != want {
			t.Fatalf("TreeFind(%q) = %d; want %d\n%s", p, got, want, listed(x))
		}
		if ok && want > 0 {
			refs[want]++
		}
	}
	// These trees are less deep than a way is long: so many ways lead to a place as it has names.
	for ino, want := range refs {
		if got := impl.TreeRefs(x, ino); got != want {
			t.Fatalf("TreeRefs(%d) = %d; want %d\n%s", ino, got, want, listed(x))
		}
		if ok && ino > 0 && x.Nodes[ino].Kind == impl.NodeDir && want != 1 {
			t.Fatalf("%d is a directory with %d names\n%s", ino, want, listed(x))
		}
	}
	return ok
}

func TestTreeEverySmallTree(t *testing.T) {
	ways := waysUpTo([]string{"a", "b"}, 4)
	ok := 0
	for size := 1; size <= 3; size++ {
		eachTree(size, places([]int{-1, 0, 1, 2, 3}), func(x impl.Tree) {
			if wantAsModel(t, x, ways) {
				ok++
			}
		})
	}
	eachTree(4, places([]int{1, 2, 3}), func(x impl.Tree) {
		if wantAsModel(t, x, ways) {
			ok++
		}
	})
	if ok < 100 {
		t.Errorf("only %d of these trees are ok", ok)
	}
}

func TestTreeFindWrongWays(t *testing.T) {
	x := chain(10)
	wrong := [][]string{
		{""}, {"D"}, {"d", ""}, {"", "d"}, {"d", "D"}, {"/d"}, {"d/d"}, {"/"}, {"abcde"}, {"d", "ddddd"}, {"d", "\xff"},
		slices.Repeat([]string{"d"}, 6), slices.Repeat([]string{"d"}, 1000), {"dd"}, {"c"}, {"d", "e"},
	}
	for _, p := range wrong {
		if got := impl.TreeFind(x, p); got != -1 {
			t.Errorf("TreeFind(%.20q) = %d; want -1", p, got)
		}
	}
	past := tree(1, dir(1, "a", 1), file(1, "a"))
	for _, p := range [][]string{{"a", "a"}, {"a", "b"}, {"a", ""}, {"a", "a", "a"}} {
		if got := impl.TreeFind(past, p); got != -1 {
			t.Errorf("TreeFind(%q) past a file = %d; want -1", p, got)
		}
	}
	if impl.TreeFind(x, nil) != 0 || impl.TreeFind(x, []string{}) != 0 {
		t.Error("the way of no names does not lead to the root")
	}
}

// differing is places of which each parts from the first in one part alone.
func differing() []impl.Node {
	return []impl.Node{
		{Kind: 2, Text: "t", Names: []string{"a", "b"}, Kids: []int{1, 2}, At: 3},
		{Kind: 1, Text: "t", Names: []string{"a", "b"}, Kids: []int{1, 2}, At: 3},
		{Kind: 0, Text: "t", Names: []string{"a", "b"}, Kids: []int{1, 2}, At: 3},
		{Kind: 2, Text: "T", Names: []string{"a", "b"}, Kids: []int{1, 2}, At: 3},
		{Kind: 2, Text: "", Names: []string{"a", "b"}, Kids: []int{1, 2}, At: 3},
		{Kind: 2, Text: "t ", Names: []string{"a", "b"}, Kids: []int{1, 2}, At: 3},
		{Kind: 2, Text: "t", Names: []string{"a", "c"}, Kids: []int{1, 2}, At: 3},
		{Kind: 2, Text: "t", Names: []string{"c", "b"}, Kids: []int{1, 2}, At: 3},
		{Kind: 2, Text: "t", Names: []string{"b", "a"}, Kids: []int{1, 2}, At: 3},
		{Kind: 2, Text: "t", Names: []string{"ab"}, Kids: []int{1, 2}, At: 3},
		{Kind: 2, Text: "t", Names: []string{"a"}, Kids: []int{1, 2}, At: 3},
		{Kind: 2, Text: "t", Names: []string{"a", "b", ""}, Kids: []int{1, 2}, At: 3},
		{Kind: 2, Text: "t", Names: nil, Kids: []int{1, 2}, At: 3},
		{Kind: 2, Text: "t", Names: []string{"a", "b"}, Kids: []int{1, 3}, At: 3},
		{Kind: 2, Text: "t", Names: []string{"a", "b"}, Kids: []int{0, 2}, At: 3},
		{Kind: 2, Text: "t", Names: []string{"a", "b"}, Kids: []int{2, 1}, At: 3},
		{Kind: 2, Text: "t", Names: []string{"a", "b"}, Kids: []int{1}, At: 3},
		{Kind: 2, Text: "t", Names: []string{"a", "b"}, Kids: []int{1, 2, 0}, At: 3},
		{Kind: 2, Text: "t", Names: []string{"a", "b"}, Kids: nil, At: 3},
		{Kind: 2, Text: "t", Names: []string{"a", "b"}, Kids: []int{1, 2}, At: 4},
		{Kind: 2, Text: "t", Names: []string{"a", "b"}, Kids: []int{1, 2}, At: -3},
		{Kind: 2, Text: "t", Names: []string{"a", "b"}, Kids: []int{1, 2}},
	}
}

func TestNodeSameEachPartAlone(t *testing.T) {
	all := differing()
	for i, a := range all {
		for j, b := range all {
			if got := impl.NodeSame(cloneNode(a), cloneNode(b)); got != (i == j) {
				t.Errorf("NodeSame(%+v, %+v) = %v", a, b, got)
			}
			x, y := tree(5, dir(1), cloneNode(a), free()), tree(5, dir(1), cloneNode(b), free())
			if got := impl.TreeSame(x, y); got != (i == j) {
				t.Errorf("TreeSame of trees with %+v and %+v = %v", a, b, got)
			}
		}
	}
}

func TestTreeSameOtherParts(t *testing.T) {
	all := []impl.Tree{
		{}, {Now: 1}, {Now: -1}, {Now: 1001},
		tree(1, dir(1)), tree(2, dir(1)), tree(1, free()), tree(1, file(1, "")),
		tree(1, dir(1), free()), tree(1, dir(1), free(), free()), tree(1, free(), dir(1)),
		tree(1, dir(1, "a", 1), file(1, "a")), tree(1, dir(1, "a", 1), file(1, "b")),
		tree(9, append(houseTree().Nodes, free())...), houseTree(),
		bent(func(x *impl.Tree) { x.Now = 10 }),
		bent(func(x *impl.Tree) { x.Nodes = x.Nodes[:9] }),
		bent(func(x *impl.Tree) { x.Nodes[9].At = 7 }),
		bent(func(x *impl.Tree) { x.Nodes[3], x.Nodes[4] = x.Nodes[4], x.Nodes[3] }),
	}
	for i, a := range all {
		for j, b := range all {
			if got := impl.TreeSame(cloneTree(a), cloneTree(b)); got != (i == j) {
				t.Errorf("TreeSame = %v of\n%sand\n%s", got, listed(a), listed(b))
			}
		}
	}
}

// hollow is a tree with the other value for each empty list: nil for empty, and empty for nil.
func hollow(x impl.Tree) impl.Tree {
	x = cloneTree(x)
	for i, n := range x.Nodes {
		if n.Names == nil {
			n.Names = []string{}
		} else if len(n.Names) == 0 {
			n.Names = nil
		}
		if n.Kids == nil {
			n.Kids = []int{}
		} else if len(n.Kids) == 0 {
			n.Kids = nil
		}
		x.Nodes[i] = n
	}
	if x.Nodes == nil {
		x.Nodes = []impl.Node{}
	} else if len(x.Nodes) == 0 {
		x.Nodes = nil
	}
	return x
}

func TestTreeEmptyListsAreNilLists(t *testing.T) {
	for _, x := range []impl.Tree{{}, {Now: 1}, impl.TreeNew(3), houseTree(), tree(1, dir(1, "a", 1), file(1, ""), free())} {
		y := hollow(x)
		if !impl.TreeSame(x, y) || !impl.TreeSame(y, x) || !impl.TreeSame(hollow(y), y) {
			t.Errorf("empty lists part two trees:\n%s", listed(x))
		}
		for i := range x.Nodes {
			if !impl.NodeSame(x.Nodes[i], y.Nodes[i]) || !impl.NodeSame(y.Nodes[i], x.Nodes[i]) {
				t.Errorf("empty lists part two places: %#v, %#v", x.Nodes[i], y.Nodes[i])
			}
		}
		if impl.TreeOk(x) != impl.TreeOk(y) || impl.TreeOk(x) != modelOk(x) {
			t.Errorf("TreeOk = %v and %v with empty lists\n%s", impl.TreeOk(x), impl.TreeOk(y), listed(x))
		}
		for ino := range x.Nodes {
			if impl.TreeRefs(x, ino) != impl.TreeRefs(y, ino) {
				t.Errorf("TreeRefs(%d) hangs on empty lists\n%s", ino, listed(x))
			}
		}
		for text := range houseWays() {
			p, _ := impl.PathRead(text)
			if impl.TreeFind(x, p) != impl.TreeFind(y, p) {
				t.Errorf("TreeFind(%s) hangs on empty lists\n%s", text, listed(x))
			}
		}
	}
}

// roomy is a tree with spare room, filled, behind each of its lists; room tells all of it, the spare room too.
func roomy(x impl.Tree) (y impl.Tree, room func() string) {
	y = cloneTree(x)
	for i, n := range y.Nodes {
		y.Nodes[i].Names = append(n.Names, "room", "more")[:len(n.Names)]
		y.Nodes[i].Kids = append(n.Kids, 77, 78)[:len(n.Kids)]
	}
	y.Nodes = append(y.Nodes, file(7, "room"), dir(8, "more", 5))[:len(y.Nodes)]
	room = func() string {
		whole := tree(y.Now, slices.Clone(y.Nodes[:cap(y.Nodes)])...)
		for i, n := range whole.Nodes {
			whole.Nodes[i].Names, whole.Nodes[i].Kids = n.Names[:cap(n.Names)], n.Kids[:cap(n.Kids)]
		}
		return listed(whole)
	}
	return y, room
}

func TestTreeWritesIntoNoArgument(t *testing.T) {
	trees := []impl.Tree{
		{}, impl.TreeNew(1), houseTree(), chain(10), chain(11), tree(1, dir(1), dir(1, "a", 1)),
		bent(func(x *impl.Tree) { x.Nodes[0].Kids[3] = 1 }), bent(func(x *impl.Tree) { x.Now = 0 }),
		tree(9, differing()...), tree(9, dir(1, "b", 1, "a", 1), file(1, "")),
	}
	for _, x := range trees {
		a, roomOfA := roomy(x)
		b, roomOfB := roomy(x)
		wasA, wasB := roomOfA(), roomOfB()
		impl.TreeOk(a)
		impl.TreeSame(a, b)
		for ino := range a.Nodes {
			impl.NodeSame(a.Nodes[ino], b.Nodes[ino])
			impl.TreeRefs(a, ino)
		}
		for _, names := range [][]string{{}, {"a"}, {"home", "deep", "b"}, {"d", "d", "d", "d", "d"}, {"A"}} {
			p, allOfP := withRoom(names...)
			wasP := slices.Clone(allOfP)
			impl.TreeFind(a, p)
			if !slices.Equal(allOfP, wasP) {
				t.Errorf("TreeFind wrote into the way: %q was %q", allOfP, wasP)
			}
		}
		if roomOfA() != wasA || roomOfB() != wasB {
			t.Errorf("a tree was written into:\n%swas\n%s", roomOfA(), wasA)
		}
	}
}

// overwrite writes into all of a tree, its spare room too.
func overwrite(x impl.Tree) {
	nodes := x.Nodes[:cap(x.Nodes)]
	for ino := range nodes {
		names, kids := nodes[ino].Names[:cap(nodes[ino].Names)], nodes[ino].Kids[:cap(nodes[ino].Kids)]
		for i := range names {
			names[i] = "bent"
		}
		for i := range kids {
			kids[i] = 99
		}
		nodes[ino] = file(77, "bent")
	}
}

func TestTreeNewIsNewMemory(t *testing.T) {
	first, second := impl.TreeNew(4), impl.TreeNew(4)
	overwrite(first)
	for _, x := range []impl.Tree{second, impl.TreeNew(4)} {
		if listed(x) != listed(tree(4, dir(4))) {
			t.Errorf("an answer of TreeNew shares memory with another one:\n%s", listed(x))
		}
		for _, n := range x.Nodes[len(x.Nodes):cap(x.Nodes)] {
			if !impl.NodeSame(n, free()) {
				t.Error("two answers of TreeNew share their spare room")
			}
		}
	}
}

// Names are bounded by their letters alone: a directory may have very many.
func TestTreeVeryManyNames(t *testing.T) {
	x := tree(1, dir(1), file(1, "all"))
	for a := 'a'; a <= 'z'; a++ {
		for b := 'a'; b <= 'z'; b++ {
			for c := 'a'; c <= 'z'; c++ {
				x.Nodes[0].Names = append(x.Nodes[0].Names, string(a)+string(b)+string(c))
				x.Nodes[0].Kids = append(x.Nodes[0].Kids, 1)
			}
		}
	}
	wantOk(t, "very many names", x)
	if got := impl.TreeRefs(x, 1); got != 26*26*26 {
		t.Errorf("TreeRefs = %d; want %d", got, 26*26*26)
	}
	for _, name := range []string{"aaa", "mno", "zzz"} {
		if got := impl.TreeFind(x, []string{name}); got != 1 {
			t.Errorf("TreeFind(%s) = %d; want 1", name, got)
		}
	}
	if got := impl.TreeFind(x, []string{"aa"}); got != -1 {
		t.Errorf("TreeFind(aa) = %d; want -1", got)
	}
}
