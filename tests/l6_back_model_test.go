package tests

import (
	"cmp"
	"fmt"
	"slices"
	"testing"

	"loop.example/cellarage/impl"
)

// modelBack tells BackOne by other means: the tree is written over where it stands, and asked by the models of chapters 2 and 5.
func modelBack(x impl.Tree, d impl.Dump) (impl.Tree, int) {
	over := d.Since > 0
	if !modelDumpOk(d) || over && !modelOk(x) {
		return impl.Tree{}, 3
	}
	if over && d.Since != x.Now {
		return impl.Tree{}, 1
	}
	y := tree(d.Date, make([]impl.Node, len(d.Live))...)
	if over {
		copy(y.Nodes, cloneTree(x).Nodes)
	}
	for _, of := range d.Items {
		y.Nodes[of.Ino] = cloneNode(of.Node)
	}
	for ino, there := range d.Live {
		if there && y.Nodes[ino].Kind == 0 {
			return impl.Tree{}, 2
		}
		if !there {
			y.Nodes[ino] = free()
		}
	}
	if !modelOk(y) {
		return impl.Tree{}, 2
	}
	return y, 0
}

// modelBackAll tells BackAll from its end on.
func modelBackAll(list []impl.Dump) (impl.Tree, int) {
	last := len(list) - 1
	if last < 0 || last == 0 && list[0].Since != 0 {
		return impl.Tree{}, 3
	}
	if last == 0 {
		return modelBack(impl.Tree{}, list[0])
	}
	x, code := modelBackAll(list[:last])
	if code != 0 {
		return impl.Tree{}, code
	}
	return modelBack(x, list[last])
}

// modelThen tells BackThen by all Items of both, put in order, the second's ahead of the first's.
func modelThen(a, b impl.Dump) (impl.Dump, bool) {
	if !modelDumpOk(a) || !modelDumpOk(b) || a.Date != b.Since {
		return impl.Dump{}, false
	}
	items := slices.Concat(b.Items, a.Items)
	slices.SortStableFunc(items, func(i, j impl.Item) int { return cmp.Compare(i.Ino, j.Ino) })
	items = slices.CompactFunc(items, func(i, j impl.Item) bool { return i.Ino == j.Ino })
	items = slices.DeleteFunc(items, func(i impl.Item) bool { return i.Ino >= len(b.Live) || !b.Live[i.Ino] })
	one := impl.Dump{Since: a.Since, Date: b.Date, Live: b.Live, Items: items}
	if !modelDumpOk(one) {
		return impl.Dump{}, false
	}
	return one, true
}

// wantBackAsModel asks BackOne for what the model answers.
func wantBackAsModel(t *testing.T, x impl.Tree, d impl.Dump) (impl.Tree, int) {
	t.Helper()
	want, wantCode := modelBack(x, d)
	got, code := impl.BackOne(x, d)
	if code != wantCode || !impl.TreeSame(got, want) {
		t.Fatalf("BackOne ends with %d, and is\n%swant %d, and\n%sof\n%sand\n%s", code, listed(got), wantCode, listed(want), listed(x), listedDump(d))
	}
	return got, code
}

// wantAllAsModel asks BackAll, and BackPick of some ways, for what the model answers.
func wantAllAsModel(t *testing.T, list []impl.Dump) (impl.Tree, int) {
	t.Helper()
	want, wantCode := modelBackAll(list)
	got, code := impl.BackAll(list)
	if code != wantCode || !impl.TreeSame(got, want) {
		t.Fatalf("BackAll ends with %d, and is\n%swant %d, and\n%sof\n%s", code, listed(got), wantCode, listed(want), listedDumps(list))
	}
	for _, p := range [][]string{nil, {"a"}, {"b"}, {"a", "a"}, {"b", "a"}} {
		n, ok := impl.BackPick(list, p)
		if wantCode != 0 || modelFind(want, p) < 0 {
			if ok || !impl.NodeSame(n, free()) {
				t.Fatalf("BackPick of %q = %v, %v; want nothing of\n%s", p, n, ok, listedDumps(list))
			}
		} else if !ok || !impl.NodeSame(n, want.Nodes[modelFind(want, p)]) {
			t.Fatalf("BackPick of %q = %v, %v; want place %d of\n%s", p, n, ok, modelFind(want, p), listed(want))
		}
	}
	return got, code
}

// wantThenAsModel asks BackThen for what the model answers.
func wantThenAsModel(t *testing.T, a, b impl.Dump) (impl.Dump, bool) {
	t.Helper()
	want, wantOk := modelThen(a, b)
	got, ok := impl.BackThen(a, b)
	if ok != wantOk || !impl.DumpSame(got, want) {
		t.Fatalf("BackThen = %v,\n%swant %v,\n%sof\n%s", ok, listedDump(got), wantOk, listedDump(want), listedDumps([]impl.Dump{a, b}))
	}
	return got, ok
}

// smallDumps is all that is kept of three places, each in one of these ways or not at all, between two turns.
func smallDumps(since, date int, lives ...string) []impl.Dump {
	var all []impl.Dump
	at := func(ino int, nodes ...impl.Node) [][]impl.Item {
		ways := [][]impl.Item{nil}
		for _, n := range nodes {
			ways = append(ways, []impl.Item{item(ino, n)})
		}
		return ways
	}
	for _, live := range lives {
		for _, root := range at(0, dir(date), dir(date, "a", 1), dir(date, "a", 2), dir(date, "a", 1, "b", 2), dir(date, "a", 1, "b", 1)) {
			for _, first := range at(1, file(date, "t"), dir(date), dir(date, "a", 2)) {
				for _, second := range at(2, file(date, "u"), dir(date), dir(date, "a", 1)) {
					all = append(all, dump(since, date, live, slices.Concat(root, first, second)...))
				}
			}
		}
	}
	return all
}

// okDumps is those that are ok.
func okDumps(all []impl.Dump) []impl.Dump {
	return slices.DeleteFunc(slices.Clone(all), func(d impl.Dump) bool { return !modelDumpOk(d) })
}

var allLives = []string{"1", "10", "11", "100", "101", "110", "111"}

// eachSmallBack calls f with each small tree and each small thing kept, and asks that each of the codes that it tells is told often.
func eachSmallBack(t *testing.T, f func(x impl.Tree, d impl.Dump) (code int)) {
	t.Helper()
	trees := smallTrees(3)
	for i := range trees {
		trees[i].Now = 1 + i%3
	}
	trees = append(append(trees, treesNotOk()...), without(flat(4), 1, 2), flat(4))
	var all []impl.Dump
	for _, c := range []struct{ since, date int }{{0, 1}, {0, 3}, {1, 1}, {1, 3}, {2, 3}, {3, 3}, {4, 3}} {
		all = append(all, okDumps(smallDumps(c.since, c.date, allLives...))...)
		all = append(all, smallDumps(c.since, c.date, "", "01")[:5]...)
	}
	ended := map[int]int{}
	for _, x := range trees {
		for _, d := range all {
			ended[f(x, d)]++
		}
	}
	for code := range 4 {
		if ended[code] < 1000 {
			t.Errorf("code %d was told only %d times of %v", code, ended[code], ended)
		}
	}
}

func TestBackOneEverySmallOne(t *testing.T) {
	eachSmallBack(t, func(x impl.Tree, d impl.Dump) int {
		_, code := wantBackAsModel(t, x, d)
		return code
	})
}

// Each two small things kept that may belong together, and some that may not: what both bring back one thing made of them brings back, too.
func TestBackEveryTwoSmallOnes(t *testing.T) {
	firsts := slices.Concat(okDumps(smallDumps(0, 1, allLives...)), smallDumps(0, 1, "", "01")[:3], okDumps(smallDumps(0, 2, "1", "11"))[:5], okDumps(smallDumps(1, 1, "111")))
	seconds := slices.Concat(okDumps(smallDumps(1, 2, allLives...)), smallDumps(1, 2, "", "01")[:3], okDumps(smallDumps(2, 3, "1", "11"))[:5], okDumps(smallDumps(0, 2, "11")))
	ended, made := map[int]int{}, map[bool]int{}
	for _, a := range firsts {
		for _, b := range seconds {
			x, code := wantAllAsModel(t, []impl.Dump{a, b})
			one, ok := wantThenAsModel(t, a, b)
			ended[code]++
			made[ok]++
			if code != 0 || b.Since == 0 {
				continue
			}
			if y, code := impl.BackAll([]impl.Dump{one}); !ok || code != 0 || !impl.TreeSame(x, y) {
				t.Fatalf("made one they are %v, and bring back\n%swant\n%sof\n%s", ok, listed(y), listed(x), listedDumps([]impl.Dump{a, b}))
			}
		}
	}
	for code := range 4 {
		if ended[code] < 100 {
			t.Errorf("code %d was told only %d times of %v", code, ended[code], ended)
		}
	}
	if made[false] < 1000 || made[true] < 1000 {
		t.Errorf("two were made one %d times, and %d times not", made[true], made[false])
	}
}

// countBack counts what is easily brought back wrongly between two turns of a tree.
func countBack(was, is impl.Tree, seen map[string]int) {
	if len(is.Nodes) > len(was.Nodes) {
		seen["more places"]++
	}
	for ino, n := range was.Nodes {
		now := is.Nodes[ino]
		if n.Kind != now.Kind && n.Kind != impl.NodeFree {
			seen[fmt.Sprint("from kind ", n.Kind, " to ", now.Kind)]++
		}
		if now.Kind != impl.NodeDir {
			continue
		}
		for _, kid := range now.Kids {
			turned := is.Nodes[kid].At > was.Now
			if now.At > was.Now && !turned {
				seen["not turned in a directory that was"]++
			}
			if now.At <= was.Now && turned {
				seen["turned in a directory that was not"]++
			}
		}
	}
}

// A tree is turned until it has no turn any more; at each turn some turns ahead of it are kept, one since the other, and bring back the trees of those turns, also once some of them were made one.
func TestBackTillTheLastTurn(t *testing.T) {
	seen := map[string]int{}
	for start := range 4 {
		r := draw(300 + start)
		var ahead []impl.Tree
		for ahead = range r.turned(t) {
			wantChainBack(t, r.chain(ahead), ahead, seen)
		}
		// Each turn is kept since the one ahead.
		wantBackAll(t, "all turns", chainOf(t, ahead[1:]...), impl.BackFine, ahead[impl.TimeMost])
	}
	wantSeen(t, seen, "more places", "from kind 1 to 0", "from kind 2 to 0", "from kind 1 to 2", "from kind 2 to 1", "not turned in a directory that was", "turned in a directory that was not")
}

// chain is some turns of a tree, ascending, the last of which is its last one; some lie close together.
func (r *draw) chain(ahead []impl.Tree) []int {
	last := len(ahead) - 1
	chosen := []int{last}
	for range r.below(5) {
		if r.below(2) == 0 {
			chosen = append(chosen, max(1, last-r.below(20)))
		} else {
			chosen = append(chosen, 1+r.below(last))
		}
	}
	slices.Sort(chosen)
	return chosen
}

// wantChainBack asks promise 6 of these turns.
func wantChainBack(t *testing.T, chosen []int, ahead []impl.Tree, seen map[string]int) {
	t.Helper()
	var list []impl.Dump
	since := 0
	for i, turn := range chosen {
		list = append(list, keptOf(t, ahead[turn], since))
		since = turn
		wantSameBack(t, list, ahead[turn])
		if i > 0 {
			countBack(ahead[chosen[i-1]], ahead[turn], seen)
		}
	}
	last := ahead[chosen[len(chosen)-1]]
	fromFirst, fromLast := list[0], list[len(list)-1]
	for i := 1; i < len(list); i++ {
		var ok, also bool
		fromFirst, ok = impl.BackThen(fromFirst, list[i])
		fromLast, also = impl.BackThen(list[len(list)-1-i], fromLast)
		if !ok || !also {
			t.Fatalf("they are not made one:\n%s", listedDumps(list))
		}
		wantSameBack(t, slices.Concat([]impl.Dump{fromFirst}, list[i+1:]), last)
		wantSameBack(t, slices.Concat(list[:len(list)-1-i], []impl.Dump{fromLast}), last)
	}
	if want := keptOf(t, last, 0); !impl.DumpSame(fromFirst, want) || !impl.DumpSame(fromLast, want) {
		t.Fatalf("made one they are\n%sand\n%swant\n%s", listedDump(fromFirst), listedDump(fromLast), listedDump(want))
	}
}

func wantSameBack(t *testing.T, list []impl.Dump, want impl.Tree) {
	t.Helper()
	if got, code := impl.BackAll(list); code != 0 || !impl.TreeSame(got, want) {
		t.Fatalf("BackAll ends with %d, and is\n%swant\n%sof\n%s", code, listed(got), listed(want), listedDumps(list))
	}
}
