package tests

import (
	"iter"
	"maps"
	"regexp"
	"slices"
	"testing"

	"loop.example/cellarage/impl"
)

// modelPlace is a place whose names stand in no order.
type modelPlace struct {
	kind  int
	text  string
	names map[string]int
	at    int
}

func modelPlaces(x impl.Tree) []modelPlace {
	var all []modelPlace
	for _, n := range x.Nodes {
		m := modelPlace{n.Kind, n.Text, map[string]int{}, n.At}
		for i, name := range n.Names {
			m.names[name] = n.Kids[i]
		}
		all = append(all, m)
	}
	return all
}

func modelTree(now int, all []modelPlace) impl.Tree {
	x := impl.Tree{Now: now}
	for _, m := range all {
		n := impl.Node{Kind: m.kind, Text: m.text, At: m.at}
		for _, name := range slices.Sorted(maps.Keys(m.names)) {
			n.Names, n.Kids = append(n.Names, name), append(n.Kids, m.names[name])
		}
		x.Nodes = append(x.Nodes, n)
	}
	return x
}

var (
	modelName = regexp.MustCompile(`\A[a-z]{1,4}\z`)
	modelText = regexp.MustCompile(`\A[a-z]{0,6}\z`)
)

func modelWay(p []string) bool {
	return len(p) <= 5 && !slices.ContainsFunc(p, func(name string) bool { return !modelName.MatchString(name) })
}

// modelEnds is what a way leads to: its directory and the place at its end, -1 if there is none, and its last name.
func modelEnds(x impl.Tree, p []string) (dir, end int, last string) {
	end = modelFind(x, p)
	if len(p) == 0 {
		return -1, end, ""
	}
	dir = modelFind(x, p[:len(p)-1])
	if dir >= 0 && x.Nodes[dir].Kind != 2 {
		dir = -1
	}
	return dir, end, p[len(p)-1]
}

// modelCode is the first code that fits, by a table of all that may, in the order of the chapter.
func modelCode(x impl.Tree, d deed) int {
	if !modelOk(x) || x.Now == 1000 || !modelWay(d.p) || !modelWay(d.q) {
		return 5
	}
	dirP, endP, _ := modelEnds(x, d.p)
	dirQ, endQ, _ := modelEnds(x, d.q)
	free := slices.ContainsFunc(x.Nodes, func(n impl.Node) bool { return n.Kind == 0 })
	isDir := endP >= 0 && x.Nodes[endP].Kind == 2
	within := len(d.q) >= len(d.p) && slices.Equal(d.q[:len(d.p)], d.p)
	type row struct {
		what string
		code int
		fits bool
	}
	for _, r := range []row{
		{"new", 4, d.kind != 1 && d.kind != 2}, {"new", 1, dirP < 0}, {"new", 2, endP >= 0}, {"new", 3, len(x.Nodes) == 10 && !free},
		{"text", 4, !modelText.MatchString(d.text)}, {"text", 1, endP < 0}, {"text", 4, isDir},
		{"link", 1, endP < 0 || dirQ < 0}, {"link", 4, isDir}, {"link", 2, endQ >= 0},
		{"move", 1, endP < 0 || dirQ < 0}, {"move", 4, endP == 0 || isDir && within}, {"move", 2, endQ >= 0},
		{"drop", 1, endP < 0}, {"drop", 4, endP == 0 || endP > 0 && len(x.Nodes[endP].Kids) > 0},
	} {
		if r.what == d.what && r.fits {
			return r.code
		}
	}
	return 0
}

// modelDo tells by other means than the program's what becomes of a tree.
func modelDo(x impl.Tree, d deed) (impl.Tree, int) {
	switch code := modelCode(x, d); code {
	case 0:
	case 5:
		return impl.Tree{}, 5
	default:
		return cloneTree(x), code
	}
	all := modelPlaces(x)
	dirP, it, lastP := modelEnds(x, d.p)
	dirQ, _, lastQ := modelEnds(x, d.q)
	turned := []int{it}
	switch d.what {
	case "new":
		it = slices.IndexFunc(all, func(m modelPlace) bool { return m.kind == 0 })
		if it < 0 {
			it = len(all)
			all = append(all, modelPlace{})
		}
		all[it] = modelPlace{kind: d.kind}
		all[dirP].names[lastP] = it
		turned = []int{it, dirP}
	case "text":
		all[it].text = d.text
	case "link":
		all[dirQ].names[lastQ] = it
		turned = append(turned, dirQ)
	case "move":
		delete(all[dirP].names, lastP)
		all[dirQ].names[lastQ] = it
		turned = append(turned, dirP, dirQ)
	case "drop":
		delete(all[dirP].names, lastP)
		turned = append(turned, dirP)
	}
	for _, ino := range turned {
		all[ino].at = x.Now + 1
	}
	named := false
	for _, m := range all {
		named = named || slices.Contains(slices.Collect(maps.Values(m.names)), it)
	}
	if !named {
		all[it] = modelPlace{}
	}
	return modelTree(x.Now+1, all), 0
}

// wantAsModelDoes asks that a deed answers what the model answers, and promise 3 of it.
func wantAsModelDoes(t *testing.T, x impl.Tree, d deed) (impl.Tree, int) {
	t.Helper()
	want, wantCode := modelDo(x, d)
	got, code := d.do(x)
	if code != wantCode || listed(got) != listed(want) {
		t.Fatalf("%v of\n%sends with %d, and is\n%swant %d, and\n%s", d, listed(x), code, listed(got), wantCode, listed(want))
	}
	if code == 0 && (!modelOk(got) || !impl.TreeOk(got)) {
		t.Fatalf("%v of\n%sis not ok:\n%s", d, listed(x), listed(got))
	}
	return got, code
}

// deedsAmong is every deed along these ways.
func deedsAmong(ways [][]string) []deed {
	var all []deed
	for _, p := range ways {
		for _, kind := range []int{1, 2, 0} {
			all = append(all, deed{what: "new", p: p, kind: kind})
		}
		all = append(all, deed{what: "text", p: p, text: "t"}, deed{what: "text", p: p, text: "T"}, deed{what: "drop", p: p})
		for _, q := range ways {
			all = append(all, deed{what: "link", p: p, q: q}, deed{what: "move", p: p, q: q})
		}
	}
	return all
}

func TestMakeEveryDeedOfEverySmallTree(t *testing.T) {
	short, long := deedsAmong(waysUpTo([]string{"a", "b"}, 2)), deedsAmong(waysUpTo([]string{"a", "b"}, 3))
	seen := map[string]map[int]int{"new": {}, "text": {}, "link": {}, "move": {}, "drop": {}}
	for size := 1; size <= 4; size++ {
		deeds := long
		if size == 4 {
			deeds = short
		}
		eachTree(size, places([]int{1, 2, 3}[:size-1]), func(x impl.Tree) {
			if !modelOk(x) {
				return
			}
			for _, d := range deeds {
				_, code := wantAsModelDoes(t, x, d)
				seen[d.what][code]++
			}
		})
	}
	for what, codes := range map[string][]int{"new": {0, 1, 2, 4}, "text": {0, 1, 4}, "link": {0, 1, 2, 4}, "move": {0, 1, 2, 4}, "drop": {0, 1, 4}} {
		if got := slices.Sorted(maps.Keys(seen[what])); !slices.Equal(got, codes) {
			t.Errorf("%s ends with %v; want %v", what, got, codes)
		}
	}
}

// draw is a row of numbers that is the same each time.
type draw uint32

func (r *draw) below(n int) int {
	*r = *r*1664525 + 1013904223
	return int(uint32(*r) >> 16 % uint32(n))
}

// drawWay leads, mostly, to something in the tree or right into it.
func (r *draw) way(x impl.Tree) []string {
	names := []string{"a", "ab", "b", "zzzz"}
	var p []string
	at := 0
	for range r.below(5) {
		n := x.Nodes[at]
		if len(n.Names) == 0 || r.below(4) == 0 {
			break
		}
		i := r.below(len(n.Names))
		p, at = append(p, n.Names[i]), n.Kids[i]
	}
	if r.below(2) == 0 {
		p = append(p, names[r.below(len(names))])
	}
	return p
}

func (r *draw) deed(x impl.Tree) deed {
	d := deed{p: r.way(x)}
	switch r.below(8) {
	case 0, 1, 2:
		d.what, d.kind = "new", 1+r.below(2)
	case 3:
		d.what, d.text = "text", []string{"", "a", "abcdef", "abcdefg"}[r.below(4)]
	case 4:
		d.what, d.q = "link", r.way(x)
	case 5, 6:
		d.what, d.q = "move", r.way(x)
	default:
		d.what = "drop"
	}
	return d
}

// turned turns a tree until it has no turn any more, and yields, at each turn, the trees of all turns till then, each at the place of its turn.
func (r *draw) turned(t *testing.T) iter.Seq[[]impl.Tree] {
	return func(yield func(all []impl.Tree) bool) {
		all := []impl.Tree{{}, impl.TreeNew(1)}
		for range 100000 {
			x := all[len(all)-1]
			if x.Now == impl.TimeMost {
				return
			}
			next, code := r.deed(x).do(x)
			if code != impl.MakeFine {
				continue
			}
			all = append(all, next)
			if !yield(all) {
				return
			}
		}
		t.Fatalf("still at turn %d", len(all)-1)
	}
}

// wantSeen asks that each of these was seen often.
func wantSeen(t *testing.T, seen map[string]int, all ...string) {
	t.Helper()
	for _, what := range all {
		if seen[what] < 100 {
			t.Errorf("%s was seen only %d times of %v", what, seen[what], seen)
		}
	}
}

// A tree is turned until it has no turn any more; at each turn it is the model's.
func TestMakeTillTheLastTurn(t *testing.T) {
	seen := map[string]map[int]int{"new": {}, "text": {}, "link": {}, "move": {}, "drop": {}}
	for start := range 4 {
		r := draw(start)
		x := impl.TreeNew(1)
		for steps := 0; x.Now < 1000; steps++ {
			if steps > 100000 {
				t.Fatalf("still at turn %d", x.Now)
			}
			d := r.deed(x)
			got, code := wantAsModelDoes(t, x, d)
			seen[d.what][code]++
			if code != impl.MakeForm {
				x = got
			}
		}
		for range 100 {
			wantForm(t, x, r.deed(x))
		}
	}
	for what, codes := range map[string][]int{"new": {0, 1, 2, 3}, "text": {0, 1, 4}, "link": {0, 1, 2, 4}, "move": {0, 1, 2, 4}, "drop": {0, 1, 4}} {
		for _, code := range codes {
			if seen[what][code] < 10 {
				t.Errorf("%s ended with %d only %d times", what, code, seen[what][code])
			}
		}
	}
}
