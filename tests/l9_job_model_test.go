package tests

import (
	"fmt"
	"slices"
	"testing"

	"loop.example/cellarage/impl"
)

// modelJobNew tells JobNew by the model of chapter 6.
func modelJobNew(x impl.Tree, d impl.Dump) (impl.Job, int) {
	if _, code := modelBack(x, d); code != 0 {
		return impl.Job{}, code
	}
	if d.Since == 0 {
		x = impl.Tree{}
	}
	return cloneJob(job(x, d)), 0
}

// modelLeft tells which places are left, from the end of what comes on, and whether it is a job at all: what is left and what is done is all that comes, written one behind the other.
func modelLeft(j impl.Job) ([]impl.Node, bool) {
	y, code := modelBack(j.From, j.Dump)
	if code != 0 || j.Dump.Since == 0 && listed(j.From) != listed(impl.Tree{}) || len(j.Done) > len(y.Nodes) {
		return nil, false
	}
	left := y.Nodes[len(j.Done):]
	all := slices.Concat(j.Done, left)
	return left, listed(tree(0, all...)) == listed(tree(0, y.Nodes...))
}

// wantJobAsModel asks the four functions of a job for what the model answers.
func wantJobAsModel(t *testing.T, j impl.Job) (left int, ok bool) {
	t.Helper()
	rest, ok := modelLeft(j)
	if got := impl.JobOk(j); got != ok {
		t.Fatalf("JobOk = %v; want %v of\n%s", got, ok, listedJob(j))
	}
	left, next, x, code := -1, impl.Job{}, impl.Tree{}, 3
	if ok {
		left, next = len(rest), cloneJob(j)
		next.Done = append(next.Done, rest[:min(1, left)]...)
	}
	if left == 0 {
		x, code = tree(j.Dump.Date, j.Done...), 0
	}
	if got := impl.JobLeft(j); got != left {
		t.Fatalf("JobLeft = %d; want %d of\n%s", got, left, listedJob(j))
	}
	if got := impl.JobStep(j); listedJob(got) != listedJob(next) {
		t.Fatalf("JobStep is\n%swant\n%sof\n%s", listedJob(got), listedJob(next), listedJob(j))
	}
	if got, gotCode := impl.JobTree(j); gotCode != code || listed(got) != listed(x) {
		t.Fatalf("JobTree ends with %d, and is\n%swant %d, and\n%sof\n%s", gotCode, listed(got), code, listed(x), listedJob(j))
	}
	return left, ok
}

// wantNewAsModel asks JobNew for what the model answers.
func wantNewAsModel(t *testing.T, x impl.Tree, d impl.Dump) (impl.Job, int) {
	t.Helper()
	want, wantCode := modelJobNew(x, d)
	got, code := impl.JobNew(x, d)
	if code != wantCode || listedJob(got) != listedJob(want) {
		t.Fatalf("JobNew ends with %d, and is\n%swant %d, and\n%sof\n%sand\n%s", code, listedJob(got), wantCode, listedJob(want), listed(x), listedDump(d))
	}
	return got, code
}

func TestJobEverySmallOne(t *testing.T) {
	eachSmallBack(t, func(x impl.Tree, d impl.Dump) int {
		j, code := wantNewAsModel(t, x, d)
		if code != 0 {
			return code
		}
		for left := len(d.Live); left >= 0; left-- {
			if got, ok := wantJobAsModel(t, j); !ok || got != left {
				t.Fatalf("%d places are left; want %d of\n%s", got, left, listedJob(j))
			}
			j = impl.JobStep(j)
		}
		return code
	})
}

// eachDone calls f with each list of up to so many of these places.
func eachDone(most int, from []impl.Node, f func(done []impl.Node)) {
	var add func(done []impl.Node)
	add = func(done []impl.Node) {
		f(done)
		if len(done) == most {
			return
		}
		for _, n := range from {
			add(append(slices.Clone(done), n))
		}
	}
	add(nil)
}

// Each short list of places of a few kinds is what is done of some jobs, and of what is none.
func TestJobOfEveryShortList(t *testing.T) {
	x := tree(2, dir(2, "a", 1, "b", 2), file(1, "t"), dir(2))
	from := []impl.Node{
		x.Nodes[0], x.Nodes[1], x.Nodes[2], free(), dir(3), dir(3, "a", 1), dir(2, "b", 2), file(3, "u"), file(3, "t"), {At: 1},
	}
	counted := map[string]int{}
	for _, of := range []impl.Job{
		job(x, dump(2, 2, "111")), job(x, dump(2, 3, "1110", item(2, dir(3, "a", 1)))), job(x, dump(2, 3, "1100", item(0, dir(3, "a", 1)))),
		job(x, dump(2, 3, "11", item(0, dir(3, "a", 1)), item(1, file(3, "u")))), job(x, dump(2, 3, "1", item(0, dir(3)))), job(x, dump(2, 3, "1000", item(0, dir(3)))),
		job(impl.Tree{}, dump(0, 3, "1", item(0, dir(3)))), job(impl.Tree{}, dump(0, 3, "1010", item(0, dir(2, "b", 2)), item(2, dir(2)))), job(impl.Tree{}, keptWhole(x)),
		job(x, keptWhole(x)), job(x, dump(1, 2, "111")), job(x, dump(2, 3, "1111")), job(impl.Tree{}, dump(2, 2, "111")), {},
	} {
		eachDone(4, from, func(done []impl.Node) {
			of.Done = done
			left, ok := wantJobAsModel(t, of)
			counted[fmt.Sprint(ok, " ", left)]++
		})
	}
	// Nine of them are jobs: two of one place, one of two, two of three, and four of four.
	delete(counted, "false -1")
	if got, want := fmt.Sprint(counted), "map[true 0:9 true 1:9 true 2:7 true 3:6 true 4:4]"; got != want {
		t.Errorf("told were %s; want %s", got, want)
	}
}

// bendNode is a place, bent in one of its parts.
func (r *draw) bendNode(n *impl.Node) {
	switch r.below(7) {
	case 0:
		n.Kind = r.below(4)
	case 1:
		n.Text = []string{"", "a", "abcdef", "abcdefg", "A"}[r.below(5)]
	case 2:
		n.Names, n.Kids = append(slices.Clone(n.Names), "zzzz"), append(slices.Clone(n.Kids), r.below(11))
	case 3:
		n.At += 1 - r.below(3)
	case 4:
		if size := len(n.Names); size > 0 {
			n.Names, n.Kids = n.Names[:size-1], n.Kids[:size-1]
		}
	case 5:
		if size := len(n.Kids); size > 0 {
			n.Kids[r.below(size)] = r.below(11)
		}
	default:
		*n = free()
	}
}

// bendJob is a job, bent in one of its parts.
func (r *draw) bendJob(j impl.Job) impl.Job {
	j = cloneJob(j)
	if all := parts(j); r.below(3) > 0 && len(all) > 0 {
		r.bendNode(all[r.below(len(all))])
		return j
	}
	switch r.below(8) {
	case 0:
		j.From.Now += 1 - r.below(3)
	case 1:
		j.Dump.Since = max(0, j.Dump.Since+1-r.below(3))
	case 2:
		j.Dump.Date += 1 - r.below(3)
	case 3:
		at := r.below(len(j.Dump.Live))
		j.Dump.Live[at] = !j.Dump.Live[at]
	case 4:
		j.Dump.Live = append(j.Dump.Live, r.below(2) == 0)
	case 5:
		j.Done = append(j.Done, free())
	case 6:
		if size := len(j.Done); size > 0 {
			at := r.below(size)
			j.Done = slices.Delete(j.Done, at, at+1)
		}
	default:
		if size := len(j.Dump.Items); size > 0 {
			at := r.below(size)
			j.Dump.Items = slices.Delete(j.Dump.Items, at, at+1)
		}
	}
	return j
}

// Jobs behind each of their steps are bent in a part, and in two: some are jobs still, of something else.
func TestJobBentAsModel(t *testing.T) {
	r := draw(900)
	counted := map[bool]int{}
	for _, b := range bringings(t) {
		for done := range b.size() + 1 {
			j := b.at(done)
			for range 40 {
				once := r.bendJob(j)
				_, ok := wantJobAsModel(t, once)
				counted[ok]++
				if len(once.Dump.Live) == 0 {
					continue
				}
				_, ok = wantJobAsModel(t, r.bendJob(once))
				counted[ok]++
			}
		}
	}
	if counted[true] < 3000 || counted[false] < 30000 {
		t.Errorf("%d were jobs, and %d not", counted[true], counted[false])
	}
}

// running is a job that is gone on with now and then, and the tree that it is to come to.
type running struct {
	j  impl.Job
	y  impl.Tree
	at int
}

// A tree is turned until it has no turn any more; jobs of any of its turns since any ahead run beside each other, are broken off anywhere, copied, and gone on with, and each comes to the tree of its turn.
func TestJobTillTheLastTurn(t *testing.T) {
	seen := map[string]int{}
	for start := range 3 {
		r := draw(950 + start)
		var pool []running
		for ahead := range r.turned(t) {
			pool = append(pool, r.running(t, ahead, seen))
			for range 8 {
				pool = r.goOn(t, pool, seen)
			}
		}
		for len(pool) > 0 {
			pool = r.goOn(t, pool, seen)
		}
	}
	wantSeen(t, seen, "done", "copied", "since 0", "since its turn", "since the one ahead", "with free places", "with all places", "with places freed")
}

// running is a new job of the last turn of a tree, or now and then of an earlier one, since one ahead of it.
func (r *draw) running(t *testing.T, ahead []impl.Tree, seen map[string]int) running {
	t.Helper()
	till := len(ahead) - 1
	if r.below(3) == 0 {
		till = 1 + r.below(till)
	}
	since := []int{0, till, till - 1, max(0, till-r.below(20)), r.below(till + 1)}[r.below(5)]
	y, d := ahead[till], keptOf(t, ahead[till], since)
	over := ahead[since]
	if since == 0 {
		over = ahead[r.below(len(ahead))]
	}
	j, code := impl.JobNew(over, d)
	if code != impl.BackFine {
		t.Fatalf("JobNew ends with %d of\n%sand\n%s", code, listed(over), listedDump(d))
	}
	countJob(ahead[since], y, seen)
	return running{j: j, y: y}
}

// countJob counts what is easily done wrongly by a job.
func countJob(was, is impl.Tree, seen map[string]int) {
	live := func(x impl.Tree) int {
		return len(slices.DeleteFunc(slices.Clone(x.Nodes), func(n impl.Node) bool { return n.Kind == impl.NodeFree }))
	}
	for what, there := range map[string]bool{
		"since 0": was.Now == 0, "since its turn": was.Now == is.Now, "since the one ahead": was.Now > 0 && was.Now == is.Now-1,
		"with free places": live(is) < len(is.Nodes), "with all places": live(is) == impl.NodeMost, "with places freed": live(is) < live(was),
	} {
		if there {
			seen[what]++
		}
	}
}

// goOn goes on with one of these jobs, and takes it out once it is done.
func (r *draw) goOn(t *testing.T, pool []running, seen map[string]int) []running {
	t.Helper()
	if len(pool) == 0 {
		return nil
	}
	i := r.below(len(pool))
	of := pool[i]
	if got := impl.JobLeft(of.j); got != len(of.y.Nodes)-of.at || len(of.j.Done) != of.at || !sameNodes(of.j.Done, of.y.Nodes[:of.at]) {
		t.Fatalf("JobLeft = %d, behind %d steps, of\n%sthat is to come to\n%s", got, of.at, listedJob(of.j), listed(of.y))
	}
	x, code := impl.JobTree(of.j)
	if of.at == len(of.y.Nodes) {
		if code != impl.BackFine || !impl.TreeSame(x, of.y) {
			t.Fatalf("JobTree ends with %d, and is\n%swant\n%s", code, listed(x), listed(of.y))
		}
		seen["done"]++
		return slices.Delete(pool, i, i+1)
	}
	if code != impl.BackForm || !impl.TreeSame(x, impl.Tree{}) {
		t.Fatalf("JobTree ends with %d, and is\n%swith places left", code, listed(x))
	}
	if r.below(3) == 0 {
		of.j = cloneJob(of.j)
		seen["copied"]++
	}
	of.j = impl.JobStep(of.j)
	of.at++
	pool[i] = of
	return pool
}
