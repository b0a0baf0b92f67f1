package tests

import (
	"fmt"
	"math"
	"slices"
	"strings"
	"testing"

	"loop.example/cellarage/impl"
)

// job is a bringing back of which these places are done.
func job(from impl.Tree, d impl.Dump, done ...impl.Node) impl.Job {
	return impl.Job{From: from, Dump: d, Done: done}
}

// cloneJob shares nothing with the job it was made of, its texts neither.
func cloneJob(j impl.Job) impl.Job {
	own := job(ownTree(j.From), cloneDump(j.Dump), ownTree(tree(0, j.Done...)).Nodes...)
	for i, of := range own.Dump.Items {
		own.Dump.Items[i].Node = ownTree(tree(0, of.Node)).Nodes[0]
	}
	return own
}

func ownTree(x impl.Tree) impl.Tree {
	own, _ := ownTexts(x, deed{})
	return own
}

// listedJob is a text that tells jobs apart in every part, and takes nil and empty lists for one value.
func listedJob(j impl.Job) string {
	return "from: " + listed(j.From) + "kept: " + listedDump(j.Dump) + "done: " + listed(tree(0, j.Done...))
}

// bringing is a tree, what is kept of a later one, and the tree that comes of both.
type bringing struct {
	what string
	x    impl.Tree
	d    impl.Dump
	y    impl.Tree
}

// from is the tree that is taken along.
func (b bringing) from() impl.Tree {
	if b.d.Since == 0 {
		return impl.Tree{}
	}
	return b.x
}

// at is the job of which so many places are done.
func (b bringing) at(done int) impl.Job {
	return cloneJob(job(b.from(), b.d, b.y.Nodes[:done]...))
}

// size is how many places there are to be done.
func (b bringing) size() int { return len(b.y.Nodes) }

// wantJob asks the four functions of a job for what they answer where so many places are done.
func wantJob(t *testing.T, b bringing, j impl.Job, done int) {
	t.Helper()
	what := fmt.Sprint(b.what, ", of which ", done, " are done")
	if !impl.JobOk(j) {
		t.Errorf("%s: JobOk = false of\n%s", what, listedJob(j))
	}
	if got := impl.JobLeft(j); got != b.size()-done {
		t.Errorf("%s: JobLeft = %d; want %d of\n%s", what, got, b.size()-done, listedJob(j))
	}
	want, wantCode := impl.Tree{}, impl.BackForm
	if done == b.size() {
		want, wantCode = b.y, impl.BackFine
	}
	if got, code := impl.JobTree(j); code != wantCode || listed(got) != listed(want) {
		t.Errorf("%s: JobTree ends with %d, and is\n%swant %d, and\n%sof\n%s", what, code, listed(got), wantCode, listed(want), listedJob(j))
	}
	next := b.at(min(done+1, b.size()))
	if got := impl.JobStep(j); listedJob(got) != listedJob(next) {
		t.Errorf("%s: JobStep is\n%swant\n%s", what, listedJob(got), listedJob(next))
	}
}

// wantJobAt asks for a job as it is where so many places are done, and all that is to be asked of it.
func wantJobAt(t *testing.T, b bringing, j impl.Job, done int) {
	t.Helper()
	if want := b.at(done); listedJob(j) != listedJob(want) {
		t.Errorf("%s: with %d done, the job is\n%swant\n%s", b.what, done, listedJob(j), listedJob(want))
	}
	wantJob(t, b, j, done)
}

// wantNoJob asks the four functions for what they answer of what is no job.
func wantNoJob(t *testing.T, what string, j impl.Job) {
	t.Helper()
	if impl.JobOk(j) {
		t.Errorf("%s: JobOk = true of\n%s", what, listedJob(j))
	}
	if got := impl.JobLeft(j); got != -1 {
		t.Errorf("%s: JobLeft = %d; want -1 of\n%s", what, got, listedJob(j))
	}
	if got := impl.JobStep(j); listedJob(got) != listedJob(impl.Job{}) {
		t.Errorf("%s: JobStep is\n%swant nothing of\n%s", what, listedJob(got), listedJob(j))
	}
	if got, code := impl.JobTree(j); code != impl.BackForm || listed(got) != listed(impl.Tree{}) {
		t.Errorf("%s: JobTree ends with %d, and is\n%swant nothing of\n%s", what, code, listed(got), listedJob(j))
	}
}

// wantNew asks JobNew for a job, and wantNotNew for nothing and a code.
func wantNew(t *testing.T, b bringing) impl.Job {
	t.Helper()
	j, code := impl.JobNew(b.x, b.d)
	if code != impl.BackFine {
		t.Fatalf("%s: JobNew ends with %d of\n%sand\n%s", b.what, code, listed(b.x), listedDump(b.d))
	}
	wantJobAt(t, b, j, 0)
	return j
}

func wantNotNew(t *testing.T, what string, x impl.Tree, d impl.Dump, code int) {
	t.Helper()
	if j, got := impl.JobNew(x, d); got != code || listedJob(j) != listedJob(impl.Job{}) {
		t.Errorf("%s: JobNew ends with %d, and is\n%swant nothing, and %d of\n%sand\n%s", what, got, listedJob(j), code, listed(x), listedDump(d))
	}
	wantNoJob(t, what, job(x, d))
}

// goneOn does steps until a job has so many places done.
func goneOn(j impl.Job, done int) impl.Job {
	for len(j.Done) < done {
		next := impl.JobStep(j)
		if len(next.Done) <= len(j.Done) {
			return next
		}
		j = next
	}
	return j
}

// writtenOut is bringings of which the tree that comes is written out.
func writtenOut() []bringing {
	x := backBase()
	root, a, b, d := x.Nodes[0], x.Nodes[1], x.Nodes[2], x.Nodes[4]
	nine := without(flat(9), 1, 2, 3, 4, 5, 6, 7, 8, 9)
	return []bringing{
		{"a root alone", impl.Tree{}, dump(0, 1, "1", item(0, dir(1))), tree(1, dir(1))},
		{"a root alone, at the last turn", impl.Tree{}, dump(0, 1000, "1", item(0, dir(1))), tree(1000, dir(1))},
		{"a root alone, since its turn", impl.TreeNew(1), dump(1, 1, "1"), tree(1, dir(1))},
		{"a root alone, since its turn, which is the last", impl.TreeNew(1000), dump(1000, 1000, "1"), tree(1000, dir(1000))},
		{"a root alone, later", impl.TreeNew(1), dump(1, 9, "1"), tree(9, dir(1))},
		{"a root alone, turned later", impl.TreeNew(1), dump(1, 9, "1", item(0, dir(7))), tree(9, dir(7))},
		{"a root and free places", impl.Tree{}, dump(0, 1, "1000000000", item(0, dir(1))), nine},
		{"a root and free places, since its turn", nine, dump(1, 1, "1000000000"), nine},
		{"a root, and free places more", impl.TreeNew(1), dump(1, 1, "1000"), tree(1, dir(1), free(), free(), free())},
		{"a root, and free places less", nine, dump(1, 1, "1"), tree(1, dir(1))},
		{"all places", impl.Tree{}, keptWhole(flat(9)), flat(9)},
		{"all places, since their turn", flat(9), dump(1, 1, "1111111111"), flat(9)},
		{"all directories", impl.Tree{}, keptWhole(chain(10)), chain(10)},
		{"all places freed", flat(9), dump(1, 2, "1000000000", item(0, dir(2))), tree(2, dir(2), free(), free(), free(), free(), free(), free(), free(), free(), free())},
		{"all places less", flat(9), dump(1, 2, "1", item(0, dir(2))), tree(2, dir(2))},
		{"all places taken", impl.TreeNew(1), dump(1, 1000, "1111111111", append([]impl.Item{item(0, dir(1000, "d", 1))}, chainItems(1000)...)...), lateChain(1000)},
		{"nothing turned", x, dump(5, 5, "11101"), x},
		{"nothing turned till later", x, dump(5, 9, "11101"), tree(9, root, a, b, free(), d)},
		{"nothing turned, and free places more", x, dump(5, 5, "1110100000"), tree(5, root, a, b, free(), d, free(), free(), free(), free(), free())},
		{"nothing turned in the house", houseTree(), dump(9, 9, "1110101111"), houseTree()},
		{"the house", impl.Tree{}, keptWhole(houseTree()), houseTree()},
		{"a file turned", x, dump(5, 6, "11101", item(2, file(6, "new"))), tree(6, root, a, file(6, "new"), free(), d)},
		{"the root turned", x, dump(5, 6, "11101", item(0, dir(6, "b", 2, "home", 1))), tree(6, dir(6, "b", 2, "home", 1), a, b, free(), d)},
		{"all turned", x, dump(5, 6, "11101", item(0, dir(6, "x", 4)), item(1, dir(6)), item(2, file(6, "x")), item(4, dir(6, "y", 1, "z", 2))), tree(6, dir(6, "x", 4), dir(6), file(6, "x"), free(), dir(6, "y", 1, "z", 2))},
		{"a free place taken", x, dump(5, 6, "11111", item(1, dir(6, "c", 2, "d", 4, "e", 3)), item(3, file(6, "e"))), tree(6, root, dir(6, "c", 2, "d", 4, "e", 3), b, file(6, "e"), d)},
		{"a file freed at the end", x, dump(5, 6, "11100", item(1, dir(6, "c", 2))), tree(6, root, dir(6, "c", 2), b, free(), free())},
		{"a file freed between others", x, dump(5, 6, "11001", item(0, dir(6, "a", 1)), item(1, dir(6, "d", 4))), tree(6, dir(6, "a", 1), dir(6, "d", 4), free(), free(), d)},
		{"a directory freed", x, dump(5, 6, "10100", item(0, dir(6, "b", 2))), tree(6, dir(6, "b", 2), free(), b, free(), free())},
		{"a place far behind all", x, dump(5, 6, "1110100001", item(0, dir(6, "a", 1, "b", 2, "q", 9)), item(9, file(6, "q"))), tree(6, dir(6, "a", 1, "b", 2, "q", 9), a, b, free(), d, free(), free(), free(), free(), file(6, "q"))},
	}
}

// keptWhole is all of a tree that is written out.
func keptWhole(x impl.Tree) impl.Dump {
	d := impl.Dump{Date: x.Now}
	for ino, n := range x.Nodes {
		d.Live = append(d.Live, n.Kind != impl.NodeFree)
		if n.Kind != impl.NodeFree {
			d.Items = append(d.Items, item(ino, cloneNode(n)))
		}
	}
	return d
}

// lateChain is directories within each other, all turned at a turn, and chainItems those of them behind the root.
func lateChain(at int) impl.Tree {
	x := chain(10)
	x.Now = at
	for ino := range x.Nodes {
		x.Nodes[ino].At = at
	}
	return x
}

func chainItems(at int) []impl.Item { return keptWhole(lateChain(at)).Items[1:] }

// bringings is those that are written out, and of each story some turns, kept since some ahead of them and since 0.
func bringings(t *testing.T) []bringing {
	t.Helper()
	all := writtenOut()
	for _, s := range stories() {
		trees := turns(t, storyBase(t), s.deeds...)
		last := trees[len(trees)-1]
		for i, x := range trees {
			all = append(all, bringing{fmt.Sprint(s.what, ", the last ", len(trees)-1-i), x, keptOf(t, last, x.Now), last})
		}
		all = append(all, bringing{s.what + ", since 0", impl.Tree{}, keptOf(t, last, 0), last})
	}
	return all
}

func TestJobOfBringings(t *testing.T) {
	for _, b := range bringings(t) {
		if !modelOk(b.y) {
			t.Fatalf("%s: the test's own tree is not ok:\n%s", b.what, listed(b.y))
		}
		wantBack(t, b.what, b.x, b.d, impl.BackFine, b.y)
	}
}

// A job is done from its first step to its last, and once more.
func TestJobStepByStep(t *testing.T) {
	for _, b := range bringings(t) {
		j := wantNew(t, b)
		for done := 1; done <= b.size(); done++ {
			j = impl.JobStep(j)
			wantJobAt(t, b, j, done)
		}
		for range 3 {
			j = impl.JobStep(j)
			wantJobAt(t, b, j, b.size())
		}
		wantJob(t, b, hollowJob(j), b.size())
	}
}

// A job that is broken off behind any of its steps, and copied part by part, comes to the tree of BackOne; so does one that is broken off behind all of them, and one that is broken off twice.
func TestJobBrokenOff(t *testing.T) {
	for _, b := range bringings(t) {
		want, code := impl.BackOne(b.x, b.d)
		if code != impl.BackFine {
			t.Fatalf("%s: BackOne ends with %d", b.what, code)
		}
		each := cloneJob(wantNew(t, b))
		for first := range b.size() + 1 {
			j := brokenOff(wantNew(t, b), first)
			wantJobAt(t, b, j, first)
			for second := first; second <= b.size(); second++ {
				k := brokenOff(brokenOff(j, second), b.size())
				wantJobAt(t, b, k, b.size())
				if got, code := impl.JobTree(k); code != impl.BackFine || !impl.TreeSame(got, want) {
					t.Errorf("%s, broken off behind %d and %d: JobTree ends with %d, and is\n%swant\n%s", b.what, first, second, code, listed(got), listed(want))
				}
			}
			each = brokenOff(each, first)
			wantJobAt(t, b, each, first)
		}
	}
}

// brokenOff goes on with a copy of a job until so many places are done; what was there is then written over, and a copy is left of what came.
func brokenOff(j impl.Job, done int) impl.Job {
	next := goneOn(cloneJob(j), done)
	left := cloneJob(next)
	overwriteJob(next)
	return left
}

// A job goes on from what it tells of itself, in texts.
func TestJobGoneOnFromTexts(t *testing.T) {
	for _, b := range bringings(t) {
		for done := range b.size() + 1 {
			j := goneOn(wantNew(t, b), done)
			d, ok := impl.DumpRead(impl.DumpText(j.Dump))
			if !ok {
				t.Fatalf("%s: what was kept is not read", b.what)
			}
			from := impl.Tree{}
			if d.Since > 0 {
				of, _ := impl.DumpRead(impl.DumpText(keptOf(t, j.From, 0)))
				from, _ = impl.BackAll([]impl.Dump{of})
			}
			k := job(from, d, cloneTree(tree(0, j.Done...)).Nodes...)
			wantJobAt(t, b, k, done)
			wantJobAt(t, b, goneOn(k, b.size()), b.size())
		}
	}
}

// Jobs that are gone on with in turns do not hang on each other.
func TestJobsInTurns(t *testing.T) {
	all := bringings(t)
	var jobs []impl.Job
	for _, b := range all {
		jobs = append(jobs, wantNew(t, b))
	}
	for done := 1; done <= impl.NodeMost; done++ {
		for i := range jobs {
			jobs[i] = impl.JobStep(jobs[i])
		}
		for i, b := range all {
			wantJobAt(t, b, jobs[i], min(done, b.size()))
		}
	}
}

// What was gone on with is no other job than what it came from: both can be gone on with.
func TestJobGoneOnTwice(t *testing.T) {
	for _, b := range bringings(t) {
		for done := range b.size() {
			j := goneOn(wantNew(t, b), done)
			first, second := impl.JobStep(j), impl.JobStep(j)
			overwriteJob(first)
			wantJobAt(t, b, j, done)
			wantJobAt(t, b, second, done+1)
		}
	}
}

func TestJobNewForm(t *testing.T) {
	for i, d := range dumpsNotOk() {
		for _, x := range append(treesNotOk(), backBase(), houseTree(), impl.TreeNew(1)) {
			wantNotNew(t, fmt.Sprint("kept ", i), x, d, impl.BackForm)
		}
	}
	for i, x := range treesNotOk() {
		what := fmt.Sprint("tree ", i)
		for _, since := range []int{1, 5, min(max(x.Now, 1), 999), 999} {
			wantNotNew(t, what, x, dump(since, 1000, "1"), impl.BackForm)
			wantNotNew(t, what, x, dump(since, 1000, "1", item(0, dir(1000))), impl.BackForm)
		}
		wantNotNew(t, what, x, impl.Dump{}, impl.BackForm)
	}
	wantNotNew(t, "Live of none", impl.Tree{}, dump(0, 1, ""), impl.BackForm)
	wantNotNew(t, "Live of none, since a turn", impl.TreeNew(1), dump(1, 1, ""), impl.BackForm)
	wantNotNew(t, "nothing", impl.Tree{}, impl.Dump{}, impl.BackForm)
}

func TestJobNewOther(t *testing.T) {
	x := backBase()
	for _, since := range []int{1, 2, 4, 6, 7, 999} {
		wantNotNew(t, "no Items", x, dump(since, 1000, "11101"), impl.BackOther)
		wantNotNew(t, "all Items", x, dump(since, 1000, "1", item(0, dir(1000))), impl.BackOther)
		wantNotNew(t, "and there is nothing", x, dump(since, 1000, "11111"), impl.BackOther)
	}
	wantNotNew(t, "the last turn", x, dump(1000, 1000, "11101"), impl.BackOther)
	y := turns(t, x, move("/a", "/q"), move("/q", "/a"))[2]
	wantNotNew(t, "a later tree", y, keptOf(t, y, 5), impl.BackOther)
	wantNotNew(t, "an earlier tree", impl.TreeNew(4), keptOf(t, y, 5), impl.BackOther)
}

func TestJobNewBad(t *testing.T) {
	x := backBase()
	for what, d := range map[string]impl.Dump{
		"a free place that is live":          dump(5, 6, "11111"),
		"a place past the end that is live":  dump(5, 6, "111011"),
		"a root of which there is nothing":   dump(0, 6, "1"),
		"since 0, though the tree has it":    dump(0, 6, "11101"),
		"since 0, and a file is not there":   dump(0, 6, "11", item(0, dir(6, "a", 1))),
		"a file that is free now, and named": dump(5, 6, "11001"),
		"a file with no name any more":       dump(5, 6, "11101", item(1, dir(6, "c", 2))),
		"a directory with two names":         dump(5, 6, "11101", item(0, dir(6, "a", 1, "b", 2, "c", 1))),
		"a directory in itself":              dump(5, 6, "11101", item(0, dir(6, "b", 2)), item(1, dir(6, "c", 1, "d", 4))),
		"a place less, which has a name":     dump(5, 6, "1110"),
	} {
		wantNotNew(t, what, x, d, impl.BackBad)
		wantNotNew(t, what, hollow(x), hollowDump(d), impl.BackBad)
	}
}

// What was kept since 0 takes no tree along, be it ok, bent, another one or nothing.
func TestJobNewSinceZero(t *testing.T) {
	over := append(treesNotOk(), impl.Tree{}, impl.TreeNew(1), houseTree(), flat(9), chain(10), backBase(), tree(0, free()), tree(math.MaxInt))
	for _, b := range bringings(t) {
		if b.d.Since > 0 {
			continue
		}
		for _, x := range append(over, b.y) {
			b.x = x
			wantJobAt(t, b, goneOn(wantNew(t, b), b.size()), b.size())
		}
	}
}

// From of something is no job of what was kept since 0, whatever it is, and however much is done.
func TestJobFromOfSomethingSinceZero(t *testing.T) {
	// The first of those that are not ok is nothing.
	some := append(treesNotOk()[1:], impl.TreeNew(1), houseTree(), flat(9), tree(1), tree(-1), tree(0, free()), tree(0, dir(1)), tree(1000), tree(math.MinInt))
	for _, b := range bringings(t) {
		if b.d.Since > 0 {
			continue
		}
		for _, from := range append(some, b.y, tree(b.y.Now), tree(0, b.y.Nodes...)) {
			for _, done := range []int{0, 1, b.size() - 1, b.size()} {
				j := b.at(done)
				j.From = from
				wantNoJob(t, b.what+", from something", j)
			}
		}
		for done := range b.size() + 1 {
			j := b.at(done)
			j.From.Nodes = []impl.Node{}
			wantJob(t, b, j, done)
			j.From.Nodes = make([]impl.Node, 0, 9)
			wantJob(t, b, j, done)
		}
	}
}

// nodeBends is each part of a place, bent in each of some ways.
func nodeBends() map[string]func(n *impl.Node) {
	return map[string]func(n *impl.Node){
		"Kind one more":          func(n *impl.Node) { n.Kind++ },
		"Kind one less":          func(n *impl.Node) { n.Kind-- },
		"Kind of none":           func(n *impl.Node) { n.Kind = 3 + n.Kind },
		"Text a letter more":     func(n *impl.Node) { n.Text += "a" },
		"Text a letter ahead":    func(n *impl.Node) { n.Text = "z" + n.Text },
		"Text with a zero byte":  func(n *impl.Node) { n.Text += "\x00" },
		"Text of another letter": func(n *impl.Node) { n.Text = strings.Repeat("Q", max(len(n.Text), 1)) },
		"Names one more":         func(n *impl.Node) { n.Names = append(n.Names, "zzzz") },
		"Names one more, empty":  func(n *impl.Node) { n.Names = append(n.Names, "") },
		"Kids one more":          func(n *impl.Node) { n.Kids = append(n.Kids, 1) },
		"Kids one more, 0":       func(n *impl.Node) { n.Kids = append(n.Kids, 0) },
		"Names and Kids more":    func(n *impl.Node) { n.Names, n.Kids = append(n.Names, "zzzz"), append(n.Kids, 1) },
		"At one more":            func(n *impl.Node) { n.At++ },
		"At one less":            func(n *impl.Node) { n.At-- },
		"At far off":             func(n *impl.Node) { n.At = math.MinInt },
		"all parts":              func(n *impl.Node) { *n = impl.Node{Kind: 7, Text: "?", Names: []string{"?"}, Kids: []int{-1}, At: -1} },
	}
}

// listBends is each list of a directory with names, bent.
func listBends() map[string]func(n *impl.Node) {
	return map[string]func(n *impl.Node){
		"Names one less":          func(n *impl.Node) { n.Names = n.Names[1:] },
		"Names none":              func(n *impl.Node) { n.Names = nil },
		"Names another first one": func(n *impl.Node) { n.Names[0] += "a" },
		"Names another last one":  func(n *impl.Node) { n.Names[len(n.Names)-1] = "?" },
		"Kids one less":           func(n *impl.Node) { n.Kids = n.Kids[:len(n.Kids)-1] },
		"Kids none":               func(n *impl.Node) { n.Kids = nil },
		"Kids another first one":  func(n *impl.Node) { n.Kids[0]++ },
		"Kids another last one":   func(n *impl.Node) { n.Kids[len(n.Kids)-1] = 0 },
		"Names and Kids one less": func(n *impl.Node) { n.Names, n.Kids = n.Names[1:], n.Kids[1:] },
		"Names and Kids none":     func(n *impl.Node) { n.Names, n.Kids = nil, nil },
		"Names in another order":  func(n *impl.Node) { n.Names[0] = n.Names[0] + "z" },
	}
}

// A place that is done, bent in any of its parts, is no place that BackOne makes, however much is done behind it.
func TestJobBentPlaces(t *testing.T) {
	wantBends := func(b bringing, ino int, bends map[string]func(n *impl.Node)) {
		t.Helper()
		for what, bend := range bends {
			for done := ino + 1; done <= b.size(); done++ {
				j := b.at(done)
				bend(&j.Done[ino])
				wantNoJob(t, fmt.Sprint(b.what, ", place ", ino, " of ", done, " bent: ", what), j)
			}
		}
	}
	for _, b := range writtenOut() {
		for ino, n := range b.y.Nodes {
			wantBends(b, ino, nodeBends())
			if len(n.Names) > 0 {
				wantBends(b, ino, listBends())
			}
		}
	}
}

// What is done is the first places, in order: none is too many, left out, there twice or in another one's place.
func TestJobBentLists(t *testing.T) {
	for _, b := range bringings(t) {
		for done := range b.size() + 1 {
			what := fmt.Sprint(b.what, ", of which ", done, " are done, ")
			for ino := range done {
				j := b.at(done)
				j.Done = slices.Delete(j.Done, ino, ino+1)
				wantBentList(t, b, what+"one left out", j)
				j = b.at(done)
				j.Done = slices.Insert(j.Done, ino, j.Done[ino])
				wantBentList(t, b, what+"one there twice", j)
				j = b.at(done)
				j.Done[0], j.Done[ino] = j.Done[ino], j.Done[0]
				wantBentList(t, b, what+"two in each other's place", j)
			}
			j := b.at(done)
			slices.Reverse(j.Done)
			wantBentList(t, b, what+"the other way round", j)
			for _, n := range []impl.Node{free(), dir(1), file(1, ""), b.y.Nodes[0], b.y.Nodes[b.size()-1], {Kind: -1}} {
				j := b.at(done)
				j.Done = append(j.Done, n)
				wantBentList(t, b, what+"one more", j)
				j.Done = append(j.Done, n)
				wantBentList(t, b, what+"two more", j)
			}
			j = b.at(done)
			j.Done = append(j.Done, make([]impl.Node, 11)...)
			wantNoJob(t, what+"eleven more", j)
			j.Done = make([]impl.Node, 1<<12)
			wantNoJob(t, what+"very many", j)
		}
		for many := 1; many <= 3; many++ {
			j := b.at(b.size())
			wantNoJob(t, b.what+", too many", job(j.From, j.Dump, append(j.Done, make([]impl.Node, many)...)...))
			wantNoJob(t, b.what+", too many", job(j.From, j.Dump, append(j.Done, slices.Repeat(j.Done[b.size()-1:], many)...)...))
			wantNoJob(t, b.what+", too many", job(j.From, j.Dump, append(j.Done, slices.Repeat(j.Done[:1], many)...)...))
		}
	}
}

// wantBentList asks for a job just if what is done is still the first places that come, as it is where the last one is left out, or one of two that are the same.
func wantBentList(t *testing.T, b bringing, what string, j impl.Job) {
	t.Helper()
	if len(j.Done) <= b.size() && sameNodes(j.Done, b.y.Nodes[:len(j.Done)]) {
		wantJob(t, b, j, len(j.Done))
	} else {
		wantNoJob(t, what, j)
	}
}

func sameNodes(a, b []impl.Node) bool { return listed(tree(0, a...)) == listed(tree(0, b...)) }

// From, bent so that it is no tree any more or one of another turn, makes no job of one since a turn.
func TestJobBentFrom(t *testing.T) {
	bends := map[string]func(x *impl.Tree){
		"Now one more":      func(x *impl.Tree) { x.Now++ },
		"Now one less":      func(x *impl.Tree) { x.Now-- },
		"Now 0":             func(x *impl.Tree) { x.Now = 0 },
		"Now far off":       func(x *impl.Tree) { x.Now = math.MaxInt },
		"no places":         func(x *impl.Tree) { x.Nodes = nil },
		"nothing":           func(x *impl.Tree) { *x = impl.Tree{} },
		"too many places":   func(x *impl.Tree) { x.Nodes = append(x.Nodes, make([]impl.Node, 10)...) },
		"the root free":     func(x *impl.Tree) { x.Nodes[0] = free() },
		"the root a file":   func(x *impl.Tree) { x.Nodes[0] = file(1, "a") },
		"the root turned 0": func(x *impl.Tree) { x.Nodes[0].At = 0 },
		"turned after Now":  func(x *impl.Tree) { x.Nodes[0].At = x.Now + 1 },
		"a name too many":   func(x *impl.Tree) { x.Nodes[0].Names = append(x.Nodes[0].Names, "zzzz") },
		"a Kid too many":    func(x *impl.Tree) { x.Nodes[0].Kids = append(x.Nodes[0].Kids, 1) },
		"a text of a dir":   func(x *impl.Tree) { x.Nodes[0].Text = "a" },
		"not reached":       func(x *impl.Tree) { x.Nodes[len(x.Nodes)-1] = impl.Node{Kind: 3, At: 1} },
	}
	for _, b := range bringings(t) {
		if b.d.Since == 0 {
			continue
		}
		for what, bend := range bends {
			for done := range b.size() + 1 {
				j := b.at(done)
				bend(&j.From)
				wantNoJob(t, fmt.Sprint(b.what, ", of which ", done, " are done, from a tree bent: ", what), j)
			}
		}
		for _, x := range treesNotOk() {
			j := b.at(b.size())
			j.From = x
			wantNoJob(t, b.what+", from a tree that is not ok", j)
		}
	}
}

// Where From is another tree of that turn, it is a job as long as just the same comes of it.
func TestJobFromAnotherTree(t *testing.T) {
	x, d := backBase(), dump(5, 7, "11110", item(1, dir(7, "c", 2, "e", 3)), item(3, file(6, "e")))
	y := tree(7, x.Nodes[0], dir(7, "c", 2, "e", 3), x.Nodes[2], file(6, "e"), free())
	b := bringing{"another tree", x, d, y}
	wantJobAt(t, b, goneOn(wantNew(t, b), 5), 5)
	bent := func(ino int, n impl.Node) bringing {
		other := bringing{fmt.Sprint("from a tree with another place ", ino), cloneTree(x), d, cloneTree(y)}
		other.x.Nodes[ino] = n
		return other
	}
	for _, other := range []bringing{bent(1, dir(2, "d", 4)), bent(1, dir(5, "a", 4, "c", 2)), bent(4, file(1, "was"))} {
		for done := range 6 {
			wantJobAt(t, other, other.at(done), done)
			wantJobAt(t, other, goneOn(other.at(done), 5), 5)
		}
	}
	for ino, n := range map[int]impl.Node{0: dir(4, "a", 1, "b", 2), 2: file(4, "ho")} {
		other := bent(ino, n)
		other.y.Nodes[ino] = n
		for done := range 6 {
			j := b.at(done)
			j.From = other.x
			if done <= ino {
				wantJobAt(t, other, j, done)
				wantJobAt(t, other, goneOn(j, 5), 5)
			} else {
				wantNoJob(t, fmt.Sprint(other.what, ", which is done"), j)
			}
		}
	}
}

// What is kept, bent so that it is not ok, of another turn, or brings nothing back, makes no job.
func TestJobBentDump(t *testing.T) {
	bends := map[string]func(d *impl.Dump){
		"Since below 0":      func(d *impl.Dump) { d.Since = -1 },
		"Since above Date":   func(d *impl.Dump) { d.Since = d.Date + 1 },
		"Since another turn": func(d *impl.Dump) { d.Since++ },
		"Date 0":             func(d *impl.Dump) { d.Date = 0 },
		"Date above all":     func(d *impl.Dump) { d.Date = 1001 },
		"Live none":          func(d *impl.Dump) { d.Live = nil },
		"Live empty":         func(d *impl.Dump) { d.Live = []bool{} },
		"Live too many":      func(d *impl.Dump) { d.Live = append(d.Live, make([]bool, 10)...) },
		"the root not live":  func(d *impl.Dump) { d.Live[0] = false },
		"an Item of none":    func(d *impl.Dump) { d.Items = append(d.Items, item(len(d.Live), file(d.Date, ""))) },
		"an Item below 0":    func(d *impl.Dump) { d.Items = slices.Insert(d.Items, 0, item(-1, file(d.Date, ""))) },
		"a root as a file":   func(d *impl.Dump) { d.Items = []impl.Item{item(0, file(d.Date, ""))} },
		"nothing":            func(d *impl.Dump) { *d = impl.Dump{} },
	}
	for _, b := range bringings(t) {
		for what, bend := range bends {
			for done := range b.size() + 1 {
				j := b.at(done)
				bend(&j.Dump)
				wantNoJob(t, fmt.Sprint(b.what, ", of which ", done, " are done, kept bent: ", what), j)
			}
		}
		for _, d := range append(dumpsNotOk(), dump(0, 1, "1")) {
			j := b.at(b.size())
			j.Dump = d
			wantNoJob(t, b.what+", of what is not ok", j)
			j.From = impl.Tree{}
			wantNoJob(t, b.what+", of what is not ok, from nothing", j)
		}
	}
	wantNoJob(t, "nothing", impl.Job{})
	wantNoJob(t, "nothing, in empty lists", hollowJob(impl.Job{}))
	wantNoJob(t, "nothing but what is done", job(impl.Tree{}, impl.Dump{}, dir(1)))
	wantNoJob(t, "nothing but a tree", job(impl.TreeNew(1), impl.Dump{}, dir(1)))
	wantNoJob(t, "since a turn, from nothing", job(impl.Tree{}, dump(1, 1, "1")))
	wantNoJob(t, "nothing was kept of the root", job(impl.Tree{}, dump(0, 1, "1")))
	wantNoJob(t, "nothing was kept of the root, which is done", job(impl.Tree{}, dump(0, 1, "1"), dir(1)))
}

// Where something else is kept, it is a job as long as nothing of what comes otherwise is done.
func TestJobOfSomethingElse(t *testing.T) {
	x := backBase()
	b := bringing{"something else", x, dump(5, 7, "11101", item(2, file(6, "new"))), tree(7, x.Nodes[0], x.Nodes[1], file(6, "new"), free(), x.Nodes[4])}
	for what, other := range map[string]bringing{
		"a text":          {"", x, dump(5, 7, "11101", item(2, file(6, "old"))), tree(7, x.Nodes[0], x.Nodes[1], file(6, "old"), free(), x.Nodes[4])},
		"a turn":          {"", x, dump(5, 7, "11101", item(2, file(7, "new"))), tree(7, x.Nodes[0], x.Nodes[1], file(7, "new"), free(), x.Nodes[4])},
		"a kind":          {"", x, dump(5, 7, "11101", item(4, dir(7))), tree(7, x.Nodes[0], x.Nodes[1], x.Nodes[2], free(), dir(7))},
		"nothing of it":   {"", x, dump(5, 7, "11101"), tree(7, x.Nodes[0], x.Nodes[1], x.Nodes[2], free(), x.Nodes[4])},
		"another Date":    {"", x, dump(5, 8, "11101", item(2, file(6, "new"))), tree(8, x.Nodes[0], x.Nodes[1], file(6, "new"), free(), x.Nodes[4])},
		"free places":     {"", x, dump(5, 7, "11101000", item(2, file(6, "new"))), tree(7, x.Nodes[0], x.Nodes[1], file(6, "new"), free(), x.Nodes[4], free(), free(), free())},
		"one more of it":  {"", x, dump(5, 7, "11101", item(2, file(6, "new")), item(4, file(7, "last"))), tree(7, x.Nodes[0], x.Nodes[1], file(6, "new"), free(), file(7, "last"))},
		"a place less":    {"", x, dump(5, 7, "111", item(1, dir(6, "c", 2)), item(2, file(6, "new"))), tree(7, x.Nodes[0], dir(6, "c", 2), file(6, "new"))},
		"all of it anew":  {"", x, dump(5, 7, "1", item(0, dir(6))), tree(7, dir(6))},
		"a root as it is": {"", x, dump(5, 7, "1000", item(0, dir(5+1))), tree(7, dir(6), free(), free(), free())},
	} {
		other.what = what
		for done := range b.size() + 1 {
			j := b.at(done)
			j.Dump = other.d
			if done <= other.size() && sameNodes(b.y.Nodes[:done], other.y.Nodes[:done]) {
				wantJobAt(t, other, j, done)
				wantJobAt(t, other, goneOn(j, other.size()), other.size())
			} else {
				wantNoJob(t, what, j)
			}
		}
	}
}

// A directory of very many names is done as any other place.
func TestJobOfVeryManyNames(t *testing.T) {
	all := turns(t, wideTree(17000, "wide"), link("/aaaa", "/b"), drop("/abcd"), putText("/b", "x"))
	b := bringing{"very many names", all[1], keptOf(t, all[3], all[1].Now), all[3]}
	wantJobAt(t, b, goneOn(wantNew(t, b), 1), 1)
	wantJobAt(t, b, goneOn(wantNew(t, b), b.size()), b.size())
	j := b.at(1)
	j.Done[0].Names[16000] += "z"
	wantNoJob(t, "one of very many names bent", j)
	j = b.at(1)
	j.Done[0].Kids[16000] = 0
	wantNoJob(t, "one of very many Kids bent", j)
}

// hollowJob is the same with the other value for each empty list.
func hollowJob(j impl.Job) impl.Job {
	return job(hollow(j.From), hollowDump(j.Dump), hollow(tree(0, j.Done...)).Nodes...)
}

func TestJobEmptyListsAreNilLists(t *testing.T) {
	for _, b := range bringings(t) {
		j, code := impl.JobNew(hollow(b.x), hollowDump(b.d))
		if code != impl.BackFine {
			t.Fatalf("%s: JobNew of empty lists ends with %d", b.what, code)
		}
		wantJobAt(t, b, j, 0)
		for done := range b.size() + 1 {
			wantJobAt(t, b, hollowJob(b.at(done)), done)
			wantJobAt(t, b, hollowJob(hollowJob(b.at(done))), done)
		}
	}
}

// overwriteJob writes into all of a job, its spare room too.
func overwriteJob(j impl.Job) {
	overwrite(j.From)
	overwriteDump(j.Dump)
	overwrite(tree(0, j.Done...))
}

// roomyJob is the same with spare room, filled, behind each of its lists, and with texts of its own; room tells all of it, the spare room too.
func roomyJob(j impl.Job) (own impl.Job, room func() string) {
	j = cloneJob(j)
	from, roomOfFrom := roomy(j.From)
	kept, roomOfKept := roomyDump(j.Dump)
	done, roomOfDone := roomy(tree(0, j.Done...))
	own = job(from, kept)
	own.Done = done.Nodes
	return own, func() string { return roomOfFrom() + roomOfKept() + roomOfDone() }
}

// jobSpans is where the lists and texts of a job lie, those in its spare room too.
func jobSpans(what string, j impl.Job) []span {
	return slices.Concat(treeSpans(what+" From", j.From), dumpSpans(what+" Dump", j.Dump), treeSpans(what+" Done", impl.Tree{Nodes: j.Done}))
}

// memoryJobs is jobs with each number of places done, and what is no job.
func memoryJobs(t *testing.T) []impl.Job {
	t.Helper()
	house := houseTree()
	later := turns(t, house, putText("/b", "thrice"), drop("/a/ab"), newFile("/a/new"), move("/home", "/a/home"))
	all := []impl.Job{{}, job(house, impl.Dump{}), job(house, keptOf(t, house, 0)), job(house, dump(9, 9, "111"), house.Nodes...)}
	for _, b := range append(writtenOut(), bringing{"house", house, keptOf(t, later[4], 9), later[4]}, bringing{"house", house, keptOf(t, later[4], 0), later[4]}) {
		for done := range b.size() + 1 {
			all = append(all, b.at(done))
		}
		bad := b.at(b.size())
		bad.Done[b.size()-1].At = 777
		all = append(all, bad)
	}
	return all
}

func TestJobAnswersAreNewMemory(t *testing.T) {
	for _, given := range memoryJobs(t) {
		j, _ := roomyJob(given)
		spans := jobSpans("the job's", j)
		wantApart(t, jobSpans("the answer's", impl.JobStep(j)), spans)
		x, _ := impl.JobTree(j)
		wantApart(t, treeSpans("the tree's", x), spans)
		first, _ := impl.JobNew(j.From, j.Dump)
		wantApart(t, jobSpans("the new job's", first), spans)
	}
	// What was kept since 0 is taken along, the tree is not: neither is shared.
	x, _ := roomy(ownTree(houseTree()))
	d, _ := roomyDump(keptOf(t, houseTree(), 0))
	j, _ := impl.JobNew(x, d)
	wantApart(t, jobSpans("the new job's", j), append(treeSpans("the tree's", x), dumpSpans("what was kept, its", d)...))
}

// wantEmptyJobRoom asks that nothing stands in the spare room of a job.
func wantEmptyJobRoom(t *testing.T, j impl.Job) {
	t.Helper()
	wantEmptyRoom(t, j.From)
	wantEmptyRoom(t, impl.Tree{Nodes: j.Done})
	for _, of := range j.Dump.Items[len(j.Dump.Items):cap(j.Dump.Items)] {
		if of.Ino != 0 || !impl.NodeSame(of.Node, free()) {
			t.Errorf("the spare room has %v", of)
		}
	}
	for _, of := range j.Dump.Items {
		wantEmptyRoom(t, tree(1, of.Node))
	}
	if slices.Contains(j.Dump.Live[len(j.Dump.Live):cap(j.Dump.Live)], true) {
		t.Errorf("the spare room of Live is %v", j.Dump.Live[:cap(j.Dump.Live)])
	}
}

// What stands in the spare room of an answer is nothing of what was given, and no place that is yet to be done.
func TestJobSpareRoomIsEmpty(t *testing.T) {
	for _, given := range memoryJobs(t) {
		j, _ := roomyJob(given)
		wantEmptyJobRoom(t, impl.JobStep(j))
		x, _ := impl.JobTree(j)
		wantEmptyRoom(t, x)
		first, _ := impl.JobNew(j.From, j.Dump)
		wantEmptyJobRoom(t, first)
	}
}

func TestJobWritesIntoNoArgument(t *testing.T) {
	for _, given := range memoryJobs(t) {
		j, room := roomyJob(given)
		was := room()
		wantAsItWas := func(what string) {
			t.Helper()
			if room() != was {
				t.Fatalf("%s wrote into what was given:\n%swas\n%s", what, room(), was)
			}
		}
		first, _ := impl.JobNew(j.From, j.Dump)
		wantAsItWas("JobNew")
		overwriteJob(first)
		wantAsItWas("who has the answer of JobNew")
		impl.JobOk(j)
		impl.JobLeft(j)
		wantAsItWas("JobOk or JobLeft")
		next := impl.JobStep(j)
		wantAsItWas("JobStep")
		overwriteJob(next)
		wantAsItWas("who has the answer of JobStep")
		x, _ := impl.JobTree(j)
		wantAsItWas("JobTree")
		overwrite(x)
		wantAsItWas("who has the answer of JobTree")
	}
}

// parts is each list of places of a job, each of them by itself.
func parts(j impl.Job) []*impl.Node {
	var all []*impl.Node
	for i := range j.From.Nodes {
		all = append(all, &j.From.Nodes[i])
	}
	for i := range j.Dump.Items {
		all = append(all, &j.Dump.Items[i].Node)
	}
	for i := range j.Done {
		all = append(all, &j.Done[i])
	}
	return all
}

// What is written into one place of a job, or behind its end, shows in no other one.
func TestJobPartsAreApart(t *testing.T) {
	for _, j := range memoryJobs(t) {
		want := impl.JobStep(j)
		for i, n := range parts(want) {
			got := impl.JobStep(j)
			part := parts(got)[i]
			overwrite(tree(1, *part))
			part.Names, part.Kids = append(part.Names, "bent"), append(part.Kids, 99)
			*part = *n
			if listedJob(got) != listedJob(want) {
				t.Errorf("once part %d was written into, it is\n%swant\n%s", i, listedJob(got), listedJob(want))
			}
		}
		got := impl.JobStep(j)
		_ = append(got.From.Nodes, file(7, "bent"))
		_ = append(got.Dump.Items, item(7, file(7, "bent")))
		_ = append(got.Dump.Live, true)
		_ = append(got.Done, file(7, "bent"))
		if listedJob(got) != listedJob(want) {
			t.Errorf("once it was written behind its ends, it is\n%swant\n%s", listedJob(got), listedJob(want))
		}
		x, _ := impl.JobTree(j)
		for ino := range x.Nodes {
			y, _ := impl.JobTree(j)
			overwrite(tree(1, y.Nodes[ino]))
			y.Nodes[ino] = x.Nodes[ino]
			if listed(y) != listed(x) {
				t.Errorf("once place %d was written into, it is\n%swant\n%s", ino, listed(y), listed(x))
			}
		}
	}
}

// No call leaves anything for the next one, whatever becomes of its answer.
func TestJobKeepsNothing(t *testing.T) {
	told := func(j impl.Job) string {
		first, code := impl.JobNew(j.From, j.Dump)
		next := impl.JobStep(j)
		x, codeOfTree := impl.JobTree(j)
		said := fmt.Sprint(listedJob(first), code, impl.JobOk(j), impl.JobLeft(j), listedJob(next), listed(x), codeOfTree)
		overwriteJob(first)
		overwriteJob(next)
		overwrite(x)
		return said
	}
	all := memoryJobs(t)
	for i, j := range all {
		first := told(j)
		told(all[(i*7+3)%len(all)])
		told(all[len(all)-1-i])
		if second := told(j); first != second {
			t.Errorf("two answers are\n%s\n%s", first, second)
		}
		if third := told(hollowJob(j)); first != third {
			t.Errorf("the answer hangs on empty lists:\n%s\n%s", first, third)
		}
	}
}
