package tests

import (
	"fmt"
	"slices"
	"strings"
	"testing"

	"loop.example/cellarage/impl"
)

// modelWayTo is a way of a tree, and where it leads.
type modelWayTo struct {
	way []string
	ino int
}

// modelWays finds the ways of an ok tree length by length, and then sorts them: by names, a way ahead of those within it.
func modelWays(x impl.Tree) []modelWayTo {
	all := []modelWayTo{{nil, 0}}
	last := all
	for range 5 {
		var next []modelWayTo
		for _, w := range last {
			for i, name := range x.Nodes[w.ino].Names {
				next = append(next, modelWayTo{append(slices.Clone(w.way), name), x.Nodes[w.ino].Kids[i]})
			}
		}
		all = append(all, next...)
		last = next
	}
	slices.SortFunc(all, func(a, b modelWayTo) int { return slices.Compare(a.way, b.way) })
	return all
}

// modelLines is the lines of LookText, the first way to a file looked for among all of them anew.
func modelLines(x impl.Tree) []string {
	ways := modelWays(x)
	var lines []string
	for _, w := range ways {
		first := ways[slices.IndexFunc(ways, func(v modelWayTo) bool { return v.ino == w.ino })]
		line := "/" + strings.Join(w.way, "/")
		switch n := x.Nodes[w.ino]; {
		case n.Kind == 2:
			line += " dir"
		case slices.Equal(first.way, w.way):
			line += fmt.Sprintf(" '%s'", n.Text)
		default:
			line += " as /" + strings.Join(first.way, "/")
		}
		lines = append(lines, line)
	}
	return lines
}

// modelDiff holds each line against all lines of the other tree.
func modelDiff(a, b impl.Tree) []string {
	linesA, linesB := modelLines(a), modelLines(b)
	wayOf := func(line string) string { return strings.Fields(line)[0] }
	var diff []string
	for _, line := range linesA {
		if !slices.Contains(linesB, line) {
			diff = append(diff, wayOf(line))
		}
	}
	for _, line := range linesB {
		if !slices.ContainsFunc(linesA, func(other string) bool { return wayOf(other) == wayOf(line) }) {
			diff = append(diff, wayOf(line))
		}
	}
	return diff
}

// modelTold says whether two trees can be told apart by ways, kinds, texts and names, and knows of no lines.
func modelTold(a, b impl.Tree) bool {
	waysA, waysB := modelWays(a), modelWays(b)
	if !slices.EqualFunc(waysA, waysB, func(v, w modelWayTo) bool {
		n, m := a.Nodes[v.ino], b.Nodes[w.ino]
		return slices.Equal(v.way, w.way) && n.Kind == m.Kind && n.Text == m.Text
	}) {
		return true
	}
	for i := range waysA {
		for j := range i {
			if (waysA[i].ino == waysA[j].ino) != (waysB[i].ino == waysB[j].ino) {
				return true
			}
		}
	}
	return false
}

func modelMany(x impl.Tree) [3]int {
	var kinds [3]int
	letters := ""
	for _, n := range x.Nodes {
		kinds[n.Kind]++
		letters += n.Text
	}
	return [3]int{kinds[1], kinds[2], len(letters)}
}

// wantLookAsModel asks that a tree looks as the model says.
func wantLookAsModel(t *testing.T, x impl.Tree) {
	t.Helper()
	if got, want := impl.LookText(x), strings.Join(modelLines(x), "\n")+"\n"; got != want {
		t.Fatalf("LookText is\n%swant\n%sof\n%s", got, want, listed(x))
	}
	var ways [][]string
	for _, w := range modelWays(x) {
		ways = append(ways, w.way)
	}
	if got := impl.LookAll(x); !slices.EqualFunc(got, ways, slices.Equal) {
		t.Fatalf("LookAll = %q; want %q of\n%s", got, ways, listed(x))
	}
	if got, want := many(x), modelMany(x); got != want {
		t.Fatalf("LookMany = %v; want %v of\n%s", got, want, listed(x))
	}
}

// wantTwoAsModel asks promise 4 of two trees, and where they part; it says whether they look the same.
func wantTwoAsModel(t *testing.T, a, b impl.Tree) (same bool) {
	t.Helper()
	same = !modelTold(a, b)
	if got := impl.LookSame(a, b); got != same {
		t.Fatalf("LookSame = %v; want %v of\n%sand\n%s", got, same, listed(a), listed(b))
	}
	got, want := impl.LookDiff(a, b), modelDiff(a, b)
	if !slices.Equal(got, want) || same != (len(got) == 0) {
		t.Fatalf("LookDiff = %q; want %q, and that they look the same is %v, of\n%sand\n%s", got, want, same, listed(a), listed(b))
	}
	return same
}

// smallTrees is all ok trees of up to so many places that are free, a file, empty or with a text, or a directory with at most two names.
func smallTrees(most int) []impl.Tree {
	var all []impl.Tree
	for size := 1; size <= most; size++ {
		from := append(places([]int{1, 2, 3}[:size-1]), file(1, "t"))
		eachTree(size, from, func(x impl.Tree) {
			if modelOk(x) {
				all = append(all, cloneTree(x))
			}
		})
	}
	return all
}

func TestLookEverySmallTree(t *testing.T) {
	all := smallTrees(4)
	for _, x := range all {
		wantLookAsModel(t, x)
	}
	if len(all) < 500 {
		t.Errorf("only %d trees are ok", len(all))
	}
}

func TestLookEveryTwoSmallTrees(t *testing.T) {
	all := smallTrees(3)
	// Of the greater ones each seventh: all pairs of them would take too long.
	for i, x := range smallTrees(4)[len(all):] {
		if i%7 == 0 {
			all = append(all, x)
		}
	}
	same := 0
	for i, a := range all {
		for j, b := range all {
			if wantTwoAsModel(t, a, b) && i != j {
				same++
			}
		}
	}
	if same < 100 || same == len(all)*(len(all)-1) {
		t.Errorf("of %d trees %d pairs look the same", len(all), same)
	}
}

// shuffled is a tree that looks the same: its places but the root in another order, at other turns, and, if there is room, a free place more.
func (r *draw) shuffled(x impl.Tree) impl.Tree {
	x = cloneTree(x)
	if len(x.Nodes) < 10 {
		x.Nodes = append(x.Nodes, free())
	}
	to := make([]int, len(x.Nodes))
	for ino := range to {
		to[ino] = ino
		if ino > 1 {
			other := 1 + r.below(ino)
			to[ino], to[other] = to[other], to[ino]
		}
	}
	y := tree(1+r.below(1000), make([]impl.Node, len(x.Nodes))...)
	for ino, n := range x.Nodes {
		for i, kid := range n.Kids {
			n.Kids[i] = to[kid]
		}
		if n.Kind != impl.NodeFree {
			n.At = 1 + r.below(y.Now)
		}
		y.Nodes[to[ino]] = n
	}
	return y
}

// A tree is turned until it has no turn any more; at each turn it looks as the model says, and parts from those ahead of it where the model says.
func TestLookTillTheLastTurn(t *testing.T) {
	seen := map[string]int{}
	for start := range 6 {
		r := draw(100 + start)
		for all := range r.turned(t) {
			x, ahead := all[len(all)-1], all[1:len(all)-1]
			wantLookAsModel(t, x)
			for _, other := range []impl.Tree{ahead[len(ahead)-1], ahead[r.below(len(ahead))]} {
				seen[fmt.Sprint("same ", wantTwoAsModel(t, other, x))]++
				wantTwoAsModel(t, x, other)
			}
			y := r.shuffled(x)
			if !modelOk(y) || !wantTwoAsModel(t, x, y) || impl.LookText(x) != impl.LookText(y) || many(x) != many(y) {
				t.Fatalf("places in another order look otherwise:\n%s%s", listed(x), listed(y))
			}
			countSights(x, seen)
		}
	}
	for _, what := range []string{"same true", "same false", "too deep", "as in another directory", "as in one directory", "three names"} {
		if seen[what] < 50 {
			t.Errorf("%s was seen only %d times", what, seen[what])
		}
	}
}

// countSights counts what a tree has that is easily looked at wrongly.
func countSights(x impl.Tree, seen map[string]int) {
	ways := modelWays(x)
	for ino, n := range x.Nodes {
		if n.Kind != impl.NodeFree && !slices.ContainsFunc(ways, func(w modelWayTo) bool { return w.ino == ino }) {
			seen["too deep"]++
		}
		if n.Kind == impl.NodeFile && impl.TreeRefs(x, ino) >= 3 {
			seen["three names"]++
		}
	}
	for _, line := range modelLines(x) {
		way, first, is := strings.Cut(line, " as ")
		if !is {
			continue
		}
		if way[:strings.LastIndex(way, "/")] == first[:strings.LastIndex(first, "/")] {
			seen["as in one directory"]++
		} else {
			seen["as in another directory"]++
		}
	}
}
