package node_test

import (
	"math"
	"slices"
	"sync"
	"testing"

	"osier/api"
	"osier/node"
)

// open is a store that must be given.
func open(t *testing.T, vars, budget int) *node.Store {
	t.Helper()
	s, e := node.New(vars, budget)
	if e != api.OK || s == nil {
		t.Fatalf("New(%d, %d): error %d", vars, budget, e)
	}
	return s
}

// mk wants Mk to give a node.
func mk(t *testing.T, s *node.Store, v, low, high int) int {
	k, e := s.Mk(v, low, high)
	if e != api.OK {
		t.Helper()
		t.Fatalf("Mk(%d, %d, %d): error %d", v, low, high, e)
	}
	return k
}

// mks wants Mk to give the node of this number.
func mks(t *testing.T, s *node.Store, v, low, high, want int) {
	if k, e := s.Mk(v, low, high); k != want || e != api.OK {
		t.Helper()
		t.Fatalf("Mk(%d, %d, %d): %d, error %d, not %d", v, low, high, k, e, want)
	}
}

// refusesMk wants Mk to answer an error, and nothing beside it, and not to have changed anything.
func refusesMk(t *testing.T, s *node.Store, v, low, high int, want api.Errno) {
	length, made := s.Len(), s.Made()
	if k, e := s.Mk(v, low, high); k != 0 || e != want {
		t.Helper()
		t.Fatalf("Mk(%d, %d, %d): %d, error %d, not 0, error %d", v, low, high, k, e, want)
	}
	counts(t, s, length, made, s.Sweeps())
}

// is wants a node to ask a variable, and to go on so.
func is(t *testing.T, s *node.Store, k, v, low, high int) {
	gotV, gotLow, gotHigh, e := s.Node(k)
	if gotV != v || gotLow != low || gotHigh != high || e != api.OK {
		t.Helper()
		t.Fatalf("Node(%d): %d %d %d, error %d, not %d %d %d", k, gotV, gotLow, gotHigh, e, v, low, high)
	}
}

// isNone wants a number to be no node's, whatever is asked of it.
func isNone(t *testing.T, s *node.Store, k int) {
	t.Helper()
	if v, low, high, e := s.Node(k); v != 0 || low != 0 || high != 0 || e != api.ErrNone {
		t.Fatalf("Node(%d): %d %d %d, error %d, not 0 0 0, ErrNone", k, v, low, high, e)
	}
	if x, e := s.Eval(k, []bool{true, true, true}); x || e != api.ErrNone {
		t.Fatalf("Eval(%d): %v, error %d, not false, ErrNone", k, x, e)
	}
	if n, e := s.Size(k); n != 0 || e != api.ErrNone {
		t.Fatalf("Size(%d): %d, error %d, not 0, ErrNone", k, n, e)
	}
	if e := s.Pin(k); e != api.ErrNone {
		t.Fatalf("Pin(%d): error %d, not ErrNone", k, e)
	}
	if e := s.Unpin(k); e != api.ErrNone {
		t.Fatalf("Unpin(%d): error %d, not ErrNone", k, e)
	}
}

// says wants a node to say something of values.
func says(t *testing.T, s *node.Store, k int, values []bool, want bool) {
	if x, e := s.Eval(k, values); x != want || e != api.OK {
		t.Helper()
		t.Fatalf("Eval(%d, %v): %v, error %d, not %v", k, values, x, e, want)
	}
}

// sized wants a node to be of so many.
func sized(t *testing.T, s *node.Store, k, want int) {
	if n, e := s.Size(k); n != want || e != api.OK {
		t.Helper()
		t.Fatalf("Size(%d): %d, error %d, not %d", k, n, e, want)
	}
}

// pin wants a node to be pinned, or to be refused so.
func pin(t *testing.T, s *node.Store, k int, want api.Errno) {
	if e := s.Pin(k); e != want {
		t.Helper()
		t.Fatalf("Pin(%d): error %d, not %d", k, e, want)
	}
}

// unpin wants a pin to be taken away, or to be refused so.
func unpin(t *testing.T, s *node.Store, k int, want api.Errno) {
	if e := s.Unpin(k); e != want {
		t.Helper()
		t.Fatalf("Unpin(%d): error %d, not %d", k, e, want)
	}
}

// sweep wants so many nodes to be swept away.
func sweep(t *testing.T, s *node.Store, want int) {
	length, made, sweeps := s.Len(), s.Made(), s.Sweeps()
	if n := s.Sweep(); n != want {
		t.Helper()
		t.Fatalf("Sweep: %d, not %d", n, want)
	}
	counts(t, s, length-want, made, sweeps+1)
}

// counts wants a store to have counted so.
func counts(t *testing.T, s *node.Store, length, made, sweeps int) {
	if s.Len() != length || s.Made() != made || s.Sweeps() != sweeps {
		t.Helper()
		t.Fatalf("Len %d, Made %d, Sweeps %d, not %d, %d, %d", s.Len(), s.Made(), s.Sweeps(), length, made, sweeps)
	}
}

// wrong is numbers that are no node's in a store whose numbers end below a thousand: some end, cut to fewer bits, in those of nodes.
func wrong() []int {
	return []int{math.MinInt, math.MinInt + 1, -1 << 32, -3, -2, -1, 1000, api.MaxBudget, 1 << 31, 1 << 32, 1<<32 + 1, 1<<32 + 2, math.MaxInt - 1, math.MaxInt}
}

// dice is a row of numbers that look thrown, the same ones each time.
func dice(seed uint64) func(n int) int {
	return func(n int) int {
		seed = seed*6364136223846793005 + 1442695040888963407
		return int(seed>>33) % n
	}
}

// Nd1, Nd2: a new store has the nodes 0 and 1, and nothing was made or swept.
func TestNew(t *testing.T) {
	for _, vars := range []int{0, 1, 2, 3, 62, 63, 64, 255, api.MaxVars} {
		for _, budget := range []int{2, 3, 4, 1000, api.MaxBudget - 1, api.MaxBudget} {
			s := open(t, vars, budget)
			counts(t, s, 2, 0, 0)
			if s.Vars() != vars {
				t.Fatalf("Vars of New(%d, %d): %d", vars, budget, s.Vars())
			}
			for k := range 2 {
				is(t, s, k, vars, k, k)
				sized(t, s, k, 1)
				says(t, s, k, nil, k == 1)
			}
			for _, k := range append(wrong(), 2, 3, budget, budget+1) {
				isNone(t, s, k)
			}
		}
	}
}

// Nd1: variables and budgets that may not be.
func TestNewRefuses(t *testing.T) {
	vars := []int{math.MinInt, -1, 0, 1, 256, 257, 1 << 32, 1<<32 + 1, math.MaxInt}
	budgets := []int{math.MinInt, -1, 0, 1, 2, 1 << 20, 1<<20 + 1, 1<<32 + 2, math.MaxInt}
	for _, v := range vars {
		for _, b := range budgets {
			if v >= 0 && v <= 256 && b >= 2 && b <= 1<<20 {
				continue
			}
			if s, e := node.New(v, b); s != nil || e != api.ErrArg {
				t.Errorf("New(%d, %d): %v, error %d, not nil, ErrArg", v, b, s != nil, e)
			}
		}
	}
}

// Nd1: the chapter's example, and the numbers that follow it.
func TestExample(t *testing.T) {
	s := open(t, 2, 10)
	mks(t, s, 0, 0, 1, 2)
	mks(t, s, 0, 0, 1, 2)
	mks(t, s, 0, 1, 1, 1)
	counts(t, s, 3, 1, 0)
	mks(t, s, 0, 1, 0, 3)
	mks(t, s, 1, 0, 1, 4)
	mks(t, s, 0, 0, 4, 5)
	mks(t, s, 0, 4, 0, 6)
	mks(t, s, 0, 0, 4, 5)
	counts(t, s, 7, 5, 0)
}

// Nd1: a node asks what it was made to ask, and goes on as it was made to.
func TestNode(t *testing.T) {
	s := open(t, api.MaxVars, 2000)
	rows := [][4]int{{255, 0, 1, 2}, {255, 1, 0, 3}, {254, 0, 2, 4}, {254, 2, 0, 5}, {254, 3, 2, 6}, {100, 6, 5, 7}, {99, 7, 1, 8}, {1, 8, 2, 9}, {0, 8, 9, 10}, {0, 9, 8, 11}}
	for _, r := range rows {
		mks(t, s, r[0], r[1], r[2], r[3])
	}
	for _, r := range rows {
		is(t, s, r[3], r[0], r[1], r[2])
		mks(t, s, r[0], r[1], r[2], r[3])
	}
	is(t, s, 0, api.MaxVars, 0, 0)
	is(t, s, 1, api.MaxVars, 1, 1)
	counts(t, s, 12, 10, 0)
}

// Nd1: variables that there are not, even where low is high.
func TestMkOfNoVariable(t *testing.T) {
	for _, vars := range []int{0, 1, 2, 3, 255, api.MaxVars} {
		s := open(t, vars, 100)
		for _, v := range append(wrong(), vars, vars+1) {
			for _, low := range []int{0, 1} {
				refusesMk(t, s, v, low, 1, api.ErrArg)
				refusesMk(t, s, v, low, 0, api.ErrArg)
			}
		}
		if vars > 0 {
			mks(t, s, vars-1, 0, 1, 2)
			mks(t, s, 0, 1, 0, 3)
		}
	}
}

// Nd1: numbers that are no node's, as low, as high, and as both.
func TestMkOfNoNode(t *testing.T) {
	s := open(t, 3, 500)
	k := mk(t, s, 2, 0, 1)
	for _, n := range append(wrong(), 3, 4, 499, 500, 501) {
		for _, m := range []int{0, 1, k, n} {
			refusesMk(t, s, 0, n, m, api.ErrArg)
			refusesMk(t, s, 0, m, n, api.ErrArg)
		}
	}
	sweep(t, s, 1)
	refusesMk(t, s, 0, k, 1, api.ErrArg)
	refusesMk(t, s, 0, 0, k, api.ErrArg)
	refusesMk(t, s, 0, k, k, api.ErrArg)
	mks(t, s, 0, 0, 1, 2)
}

// Nd1: low and high must ask later variables, even where low is high, or such a node is there already.
func TestMkOfEarlierVariables(t *testing.T) {
	s := open(t, 5, 500)
	var of [5]int
	for v := range of {
		of[v] = mk(t, s, v, 0, 1)
	}
	for v := range of {
		for w := range of {
			if w <= v {
				refusesMk(t, s, v, of[w], 0, api.ErrArg)
				refusesMk(t, s, v, 1, of[w], api.ErrArg)
				refusesMk(t, s, v, of[w], of[w], api.ErrArg)
				for x := range of {
					refusesMk(t, s, v, of[w], of[x], api.ErrArg)
					refusesMk(t, s, v, of[x], of[w], api.ErrArg)
				}
			} else {
				length := s.Len()
				mks(t, s, v, of[w], 0, length)
				mks(t, s, v, 1, of[w], length+1)
				mks(t, s, v, of[w], of[w], of[w])
			}
		}
	}
}

// Nd1: low, if low is high: no node is made, whatever they are.
func TestMkOfTheSameTwice(t *testing.T) {
	s := open(t, 4, 50)
	c := mk(t, s, 3, 0, 1)
	b := mk(t, s, 2, c, 1)
	for v := range 4 {
		mks(t, s, v, 0, 0, 0)
		mks(t, s, v, 1, 1, 1)
		if v < 3 {
			mks(t, s, v, c, c, c)
		}
		if v < 2 {
			mks(t, s, v, b, b, b)
		}
	}
	counts(t, s, 4, 2, 0)
}

// Nd1: nodes that differ in one of the three alone are two, each the same whenever it is asked for.
func TestMkOfEachThree(t *testing.T) {
	s := open(t, 4, 1000)
	numbers := map[[3]int]int{}
	for v := 3; v >= 0; v-- {
		last := s.Len()
		for low := range min(last, 14) {
			for high := range min(last, 14) {
				if low == high {
					continue
				}
				want := s.Len()
				mks(t, s, v, low, high, want)
				mks(t, s, v, low, high, want)
				numbers[[3]int{v, low, high}] = want
			}
		}
	}
	for key, k := range numbers {
		mks(t, s, key[0], key[1], key[2], k)
		is(t, s, k, key[0], key[1], key[2])
	}
	counts(t, s, len(numbers)+2, len(numbers), 0)
}

// Nd1: a store with room for 0 and 1 alone.
func TestLeastBudget(t *testing.T) {
	s := open(t, 2, 2)
	for sweeps := range 3 {
		counts(t, s, 2, 0, sweeps)
		for v := range 2 {
			refusesMk(t, s, v, 0, 1, api.ErrBudget)
			refusesMk(t, s, v, 1, 0, api.ErrBudget)
			mks(t, s, v, 0, 0, 0)
			mks(t, s, v, 1, 1, 1)
			refusesMk(t, s, v, 0, 2, api.ErrArg)
		}
		isNone(t, s, 2)
		sweep(t, s, 0)
	}
}

// Nd1: a store with as many nodes as its budget refuses new ones, and those alone, and is not changed by that; behind a sweep there is room again.
func TestBudget(t *testing.T) {
	for budget := 3; budget < 40; budget++ {
		s := open(t, 40, budget)
		for range 3 {
			for k := 2; k < budget; k++ {
				mks(t, s, 41-k, 0, k-1, k)
			}
			refusesMk(t, s, 0, 0, budget-1, api.ErrBudget)
			refusesMk(t, s, 0, budget-1, 1, api.ErrBudget)
			refusesMk(t, s, 0, 0, budget, api.ErrArg)
			refusesMk(t, s, 40, 0, budget-1, api.ErrArg)
			refusesMk(t, s, 39, 0, 2, api.ErrArg)
			isNone(t, s, budget)
			mks(t, s, 0, budget-1, budget-1, budget-1)
			for k := 2; k < budget; k++ {
				mks(t, s, 41-k, 0, k-1, k)
				is(t, s, k, 41-k, 0, k-1)
			}
			if s.Len() != budget {
				t.Fatalf("Len: %d, not %d", s.Len(), budget)
			}
			sweep(t, s, budget-2)
		}
		counts(t, s, 2, 3*(budget-2), 3)
	}
}

// Nd1, Nd2: a full store in which all is pinned stays full when it is swept; where one node goes there is room for one.
func TestBudgetOfPinnedNodes(t *testing.T) {
	s := open(t, 10, 8)
	for k := 2; k < 8; k++ {
		mks(t, s, k, 0, 1, k)
		pin(t, s, k, api.OK)
	}
	sweep(t, s, 0)
	refusesMk(t, s, 0, 0, 1, api.ErrBudget)
	for k := 7; k >= 2; k-- {
		unpin(t, s, k, api.OK)
		refusesMk(t, s, 0, 0, k, api.ErrBudget)
		sweep(t, s, 1)
		isNone(t, s, k)
		mks(t, s, k, 1, 0, k)
		pin(t, s, k, api.OK)
		refusesMk(t, s, k, 0, 1, api.ErrBudget)
		sweep(t, s, 0)
	}
	counts(t, s, 8, 12, 13)
}

// fill lets a store of 256 variables have as many nodes as its budget: the numbers rise without gaps.
func fill(t *testing.T, s *node.Store, budget int) {
	t.Helper()
	for v := api.MaxVars - 1; s.Len() < budget; v-- {
		last := s.Len()
		for i := 0; i < last*last && s.Len() < budget; i++ {
			if low, high := i/last, i%last; low != high {
				mks(t, s, v, low, high, s.Len())
			}
		}
	}
}

// Nd1, Nd2: the greatest budget: as many nodes, each by its number; what is pinned of them stays.
func TestGreatestBudget(t *testing.T) {
	s := open(t, api.MaxVars, api.MaxBudget)
	fill(t, s, api.MaxBudget)
	counts(t, s, api.MaxBudget, api.MaxBudget-2, 0)
	refusesMk(t, s, 0, 0, 1, api.ErrBudget)
	isNone(t, s, api.MaxBudget)
	last := api.MaxBudget - 1
	v, low, high, e := s.Node(last)
	if e != api.OK {
		t.Fatalf("Node(%d): error %d", last, e)
	}
	mks(t, s, v, low, high, last)
	size, e := s.Size(last)
	if e != api.OK {
		t.Fatalf("Size(%d): error %d", last, e)
	}
	pin(t, s, last, api.OK)
	sweep(t, s, api.MaxBudget-size)
	is(t, s, last, v, low, high)
	mks(t, s, v, low, high, last)
	sized(t, s, last, size)
	unpin(t, s, last, api.OK)
	sweep(t, s, size-2)
	fill(t, s, api.MaxBudget)
	counts(t, s, api.MaxBudget, 2*(api.MaxBudget-2), 2)
	refusesMk(t, s, 0, 0, 1, api.ErrBudget)
}

// Nd1: a new node has the least number that is no node's: the gaps that a sweep leaves are filled from below, then numbers go on.
func TestLeastFreeNumber(t *testing.T) {
	for _, step := range []int{2, 3, 5, 7, 50} {
		s := open(t, 100, 1000)
		gaps := 0
		for k := 2; k < 60; k++ {
			mks(t, s, k, 0, 1, k)
			if k%step == 0 {
				pin(t, s, k, api.OK)
			} else {
				gaps++
			}
		}
		sweep(t, s, gaps)
		v := 0
		for k := 2; k < 80; k++ {
			if k%step == 0 && k < 60 {
				is(t, s, k, k, 0, 1)
				continue
			}
			isNone(t, s, k)
			refusesMk(t, s, 100, 0, 1, api.ErrArg)
			mks(t, s, v, 1, 0, k)
			mks(t, s, v, 1, 0, k)
			is(t, s, k, v, 1, 0)
			v++
		}
	}
}

// Nd1, Nd2: gaps that are filled in part, and swept again: the least number is looked for from below each time.
func TestLeastFreeNumberAfterSweeps(t *testing.T) {
	s := open(t, 20, 30)
	for k := 2; k < 10; k++ {
		mks(t, s, k, 0, 1, k)
		pin(t, s, k, api.OK)
	}
	for _, k := range []int{9, 3, 5} {
		unpin(t, s, k, api.OK)
	}
	sweep(t, s, 3)
	mks(t, s, 0, 0, 1, 3)
	pin(t, s, 3, api.OK)
	mks(t, s, 1, 0, 1, 5)
	unpin(t, s, 2, api.OK)
	sweep(t, s, 2)
	mks(t, s, 10, 0, 1, 2)
	mks(t, s, 11, 0, 1, 5)
	mks(t, s, 12, 0, 1, 9)
	mks(t, s, 13, 0, 1, 10)
	sweep(t, s, 4)
	mks(t, s, 13, 0, 1, 2)
	counts(t, s, 8, 15, 3)
}

// truth is what a node says of all values of variables, one bit each: variable i is bit i of the place. Values at the end are left out, if they are false and short is set.
func truth(t *testing.T, s *node.Store, k, vars int, short bool) uint64 {
	said := uint64(0)
	for place := range 1 << vars {
		values := make([]bool, 0, vars)
		for i := 0; i < vars && !(short && place>>i == 0); i++ {
			values = append(values, place>>i&1 == 1)
		}
		x, e := s.Eval(k, values)
		if e != api.OK {
			t.Fatalf("Eval(%d, %v): error %d", k, values, e)
		}
		if x {
			said |= 1 << place
		}
	}
	return said
}

// goesOn is what a node says that asks v, and goes on with nodes that say low and high.
func goesOn(v, vars int, low, high uint64) uint64 {
	said := uint64(0)
	for place := range 1 << vars {
		from := low
		if place>>v&1 == 1 {
			from = high
		}
		said |= from & (1 << place)
	}
	return said
}

// everything makes all nodes that there may be of so many variables, as far as there is room: what each of them says.
func everything(t *testing.T, s *node.Store, vars int) []uint64 {
	said := []uint64{0, 1<<(1<<vars) - 1}
	for v := vars - 1; v >= 0; v-- {
		last := s.Len()
		for i := range last * last {
			k, e := s.Mk(v, i/last, i%last)
			if e == api.ErrBudget {
				return said
			}
			if e != api.OK {
				t.Fatalf("Mk(%d, %d, %d): error %d", v, i/last, i%last, e)
			}
			if k == len(said) {
				said = append(said, goesOn(v, vars, said[i/last], said[i%last]))
			}
		}
	}
	return said
}

// Nd2, Nd3: of all nodes of few variables: what they say, of all values and of values that are missing; and no two say the same, so that there are as many as there is to say.
func TestEverythingIsOnce(t *testing.T) {
	for vars, all := range []int{2, 4, 16, 256, 65536} {
		s := open(t, vars, all)
		said := everything(t, s, vars)
		seen := map[uint64]int{}
		for k, x := range said {
			if got := truth(t, s, k, vars, false); got != x {
				t.Fatalf("node %d of %d variables says %x, not %x", k, vars, got, x)
			}
			if got := truth(t, s, k, vars, true); got != x {
				t.Fatalf("node %d of %d variables says %x, not %x, where values are missing", k, vars, got, x)
			}
			if other, there := seen[x]; there {
				t.Fatalf("the nodes %d and %d of %d variables say the same", other, k, vars)
			}
			seen[x] = k
		}
		counts(t, s, all, all-2, 0)
	}
}

// Nd1, Nd3: with room for one node less than there is to say, there is ErrBudget; what was made till then is whole.
func TestEverythingButOne(t *testing.T) {
	s := open(t, 3, 255)
	said := everything(t, s, 3)
	if len(said) != 255 || s.Len() != 255 {
		t.Fatalf("%d nodes, Len %d, not 255", len(said), s.Len())
	}
	for k, x := range said {
		if got := truth(t, s, k, 3, false); got != x {
			t.Fatalf("node %d says %x, not %x", k, got, x)
		}
	}
}

// Nd2: values that are missing are false, those behind the last variable do not matter, nor does the room behind the list's end; the list stays as it was.
func TestEvalOfLists(t *testing.T) {
	s := open(t, 4, 50)
	d := mk(t, s, 3, 0, 1)
	notD := mk(t, s, 3, 1, 0)
	b := mk(t, s, 1, notD, d)
	says(t, s, b, nil, true)
	says(t, s, b, []bool{}, true)
	says(t, s, b, []bool{true}, true)
	says(t, s, b, []bool{true, true}, false)
	says(t, s, b, []bool{true, true, true}, false)
	says(t, s, b, []bool{true, true, true, true}, true)
	says(t, s, b, []bool{false, false, false, true}, false)
	says(t, s, b, []bool{true, true, true, true, false, true, false}, true)
	says(t, s, d, []bool{false, false, false, false, true, true, true}, false)
	for k := range 2 {
		says(t, s, k, []bool{true, false, true, false, true}, k == 1)
	}
	l := []bool{true, true, true, true, true, true}
	says(t, s, d, l[:3], false)
	says(t, s, d, l[:3:3], false)
	says(t, s, d, l[:4], true)
	says(t, s, b, l[:1], true)
	says(t, s, b, l[:2], false)
	if !slices.Equal(l, []bool{true, true, true, true, true, true}) {
		t.Errorf("the list of values was changed: %v", l)
	}
}

// parity makes the node that says whether an odd number of all variables is true: two nodes for each variable but the first.
func parity(t *testing.T, s *node.Store, vars int) int {
	even, odd := 0, 1
	for v := vars - 1; v > 0; v-- {
		even, odd = mk(t, s, v, even, odd), mk(t, s, v, odd, even)
	}
	return mk(t, s, 0, even, odd)
}

// Nd2, R1: of all variables that there may be: each call ends, though there are more ways through the node than can be gone; a node to which many ways lead is counted once.
func TestManyWays(t *testing.T) {
	for _, vars := range []int{1, 2, 3, 10, 64, 255, api.MaxVars} {
		s := open(t, vars, 2*vars+1)
		k := parity(t, s, vars)
		sized(t, s, k, 2*vars+1)
		counts(t, s, 2*vars+1, 2*vars-1, 0)
		values := make([]bool, vars)
		for i := range vars {
			says(t, s, k, values, i%2 == 1)
			values[vars-1-i] = true
		}
		pin(t, s, k, api.OK)
		sweep(t, s, 0)
		sized(t, s, k, 2*vars+1)
		unpin(t, s, k, api.OK)
		sweep(t, s, 2*vars-1)
	}
}

// Nd2: a node is of itself, and of what low and high are of, each counted once.
func TestSize(t *testing.T) {
	s := open(t, 5, 50)
	sized(t, s, 0, 1)
	sized(t, s, 1, 1)
	e := mk(t, s, 4, 0, 1)
	d := mk(t, s, 3, e, 0)
	other := mk(t, s, 3, 0, 1)
	c := mk(t, s, 2, e, d)
	b := mk(t, s, 1, c, d)
	a := mk(t, s, 0, other, b)
	for k, want := range map[int]int{e: 3, d: 4, other: 3, c: 5, b: 6, a: 8} {
		sized(t, s, k, want)
	}
	chain := open(t, api.MaxVars, 300)
	k := 1
	for v := api.MaxVars - 1; v >= 0; v-- {
		k = mk(t, chain, v, 0, k)
		sized(t, chain, k, api.MaxVars-v+2)
	}
}

// Nd2: numbers that are no node's: those that never were, and those that were swept away.
func TestNumbersOfNoNode(t *testing.T) {
	s := open(t, 5, 10)
	for range 3 {
		for _, k := range append(wrong(), 2, 3, 9, 10, 11) {
			isNone(t, s, k)
		}
		k := mk(t, s, 2, 0, 1)
		for _, k := range append(wrong(), 3, 9, 10, 11) {
			isNone(t, s, k)
		}
		m := mk(t, s, 1, k, 1)
		pin(t, s, k, api.OK)
		sweep(t, s, 1)
		isNone(t, s, m)
		is(t, s, k, 2, 0, 1)
		unpin(t, s, k, api.OK)
		sweep(t, s, 1)
		isNone(t, s, k)
		isNone(t, s, m)
	}
}

// Nd2: a node has as many pins as it was given, and stays till it has none; a node that has none is refused one less.
func TestPins(t *testing.T) {
	s := open(t, 3, 10)
	k := mk(t, s, 1, 0, 1)
	unpin(t, s, k, api.ErrNone)
	for pins := range 20 {
		for range pins {
			pin(t, s, k, api.OK)
		}
		for range pins {
			sweep(t, s, 0)
			is(t, s, k, 1, 0, 1)
			unpin(t, s, k, api.OK)
		}
		unpin(t, s, k, api.ErrNone)
		unpin(t, s, k, api.ErrNone)
	}
	sweep(t, s, 1)
	isNone(t, s, k)
}

// Nd2: a node that was swept away has left no pins to the next one of its number, or of its kind.
func TestPinsOfANumberThatComesAgain(t *testing.T) {
	s := open(t, 3, 10)
	for v := range 3 {
		mks(t, s, v, 0, 1, 2)
		unpin(t, s, 2, api.ErrNone)
		pin(t, s, 2, api.OK)
		pin(t, s, 2, api.OK)
		sweep(t, s, 0)
		unpin(t, s, 2, api.OK)
		unpin(t, s, 2, api.OK)
		sweep(t, s, 1)
	}
	mks(t, s, 2, 0, 1, 2)
	unpin(t, s, 2, api.ErrNone)
}

// Nd2: 0 and 1 are nodes that may have pins, and stay without them.
func TestPinsOfConstants(t *testing.T) {
	s := open(t, 3, 10)
	for k := range 2 {
		unpin(t, s, k, api.ErrNone)
		sweep(t, s, 0)
		pin(t, s, k, api.OK)
		pin(t, s, k, api.OK)
		sweep(t, s, 0)
		unpin(t, s, k, api.OK)
		unpin(t, s, 1-k, api.ErrNone)
		unpin(t, s, k, api.OK)
		unpin(t, s, k, api.ErrNone)
		is(t, s, k, 3, k, k)
	}
	m := mk(t, s, 0, 0, 1)
	pin(t, s, 0, api.OK)
	pin(t, s, 1, api.OK)
	sweep(t, s, 1)
	isNone(t, s, m)
}

// Nd2: a pin keeps what the node is of, low and high, to the end; not what is of the node.
func TestPinsOfWhatANodeIsOf(t *testing.T) {
	s := open(t, 5, 20)
	e := mk(t, s, 4, 0, 1)
	d := mk(t, s, 3, e, 1)
	f := mk(t, s, 3, 1, 0)
	c := mk(t, s, 2, f, d)
	b := mk(t, s, 1, c, 0)
	a := mk(t, s, 0, b, 1)
	pin(t, s, c, api.OK)
	sweep(t, s, 2)
	isNone(t, s, a)
	isNone(t, s, b)
	is(t, s, c, 2, f, d)
	is(t, s, f, 3, 1, 0)
	is(t, s, d, 3, e, 1)
	is(t, s, e, 4, 0, 1)
	for _, k := range []int{f, d, e} {
		unpin(t, s, k, api.ErrNone)
	}
	pin(t, s, d, api.OK)
	sweep(t, s, 0)
	unpin(t, s, c, api.OK)
	sweep(t, s, 2)
	isNone(t, s, c)
	isNone(t, s, f)
	is(t, s, d, 3, e, 1)
	is(t, s, e, 4, 0, 1)
	pin(t, s, e, api.OK)
	unpin(t, s, d, api.OK)
	sweep(t, s, 1)
	isNone(t, s, d)
	is(t, s, e, 4, 0, 1)
	unpin(t, s, e, api.OK)
	sweep(t, s, 1)
	counts(t, s, 2, 6, 5)
}

// Nd2: as many pins as there may be, of a node and of none beside it; one more is refused, and changes nothing.
func TestMostPins(t *testing.T) {
	s := open(t, 3, 10)
	child := mk(t, s, 2, 0, 1)
	k := mk(t, s, 1, child, 1)
	for i := range 1 << 30 {
		if e := s.Pin(k); e != api.OK {
			t.Fatalf("Pin beside %d pins: error %d", i, e)
		}
	}
	pin(t, s, k, api.ErrFull)
	pin(t, s, k, api.ErrFull)
	pin(t, s, child, api.OK)
	unpin(t, s, child, api.OK)
	unpin(t, s, child, api.ErrNone)
	sweep(t, s, 0)
	pin(t, s, k, api.ErrFull)
	unpin(t, s, k, api.OK)
	unpin(t, s, k, api.OK)
	pin(t, s, k, api.OK)
	pin(t, s, k, api.OK)
	pin(t, s, k, api.ErrFull)
	is(t, s, k, 1, child, 1)
	for i := range 1 << 30 {
		if e := s.Unpin(k); e != api.OK {
			t.Fatalf("Unpin behind %d: error %d", i, e)
		}
	}
	unpin(t, s, k, api.ErrNone)
	sweep(t, s, 2)
}

// Nd2: each sweep is counted, whether it takes anything away or not; what Mk found there was not made.
func TestCounts(t *testing.T) {
	s := open(t, 3, 10)
	for i := range 5 {
		sweep(t, s, 0)
		counts(t, s, 2, 3*i, 3*i+1)
		mks(t, s, 2, 0, 1, 2)
		mks(t, s, 1, 2, 0, 3)
		mks(t, s, 1, 2, 0, 3)
		mks(t, s, 0, 2, 3, 4)
		refusesMk(t, s, 3, 0, 1, api.ErrArg)
		mks(t, s, 0, 3, 3, 3)
		counts(t, s, 5, 3*i+3, 3*i+1)
		sweep(t, s, 3)
		sweep(t, s, 0)
		if s.Vars() != 3 {
			t.Fatalf("Vars: %d, not 3", s.Vars())
		}
	}
}

// Nd3: a node's number stays its own while it, or one that is of it, has a pin, whatever is made and swept beside it; it is found by what it asks.
func TestPinnedNumbersStay(t *testing.T) {
	s := open(t, 8, 60)
	throw := dice(3)
	h := mk(t, s, 7, 0, 1)
	g := mk(t, s, 6, h, 0)
	f := mk(t, s, 5, 1, g)
	pin(t, s, f, api.OK)
	want := truth(t, s, f, 6, false)
	for round := range 400 {
		for e := api.OK; e != api.ErrBudget; {
			_, e = s.Mk(throw(8), throw(60), throw(60))
		}
		is(t, s, f, 5, 1, g)
		is(t, s, g, 6, h, 0)
		is(t, s, h, 7, 0, 1)
		mks(t, s, 5, 1, g, f)
		mks(t, s, 6, h, 0, g)
		mks(t, s, 7, 0, 1, h)
		sized(t, s, f, 5)
		if got := truth(t, s, f, 6, false); got != want {
			t.Fatalf("round %d: the node says %x, not %x", round, got, want)
		}
		sweep(t, s, 55)
	}
}

// model is a store as the chapter says it, without speed.
type model struct {
	vars, budget int
	nodes        map[int][3]int
	pins         map[int]int
	made, sweeps int
}

// asks is what a node asks, and whether there is one.
func (m *model) asks(k int) (int, bool) {
	n, there := m.nodes[k]
	return n[0], there
}

// mk is Mk as the chapter says it.
func (m *model) mk(v, low, high int) (int, api.Errno) {
	a, there := m.asks(low)
	b, too := m.asks(high)
	if v < 0 || v >= m.vars || !there || !too || a <= v || b <= v {
		return 0, api.ErrArg
	}
	if low == high {
		return low, api.OK
	}
	for k, n := range m.nodes {
		if n == [3]int{v, low, high} {
			return k, api.OK
		}
	}
	if len(m.nodes) >= m.budget {
		return 0, api.ErrBudget
	}
	k := 0
	for _, there := m.nodes[k]; there; _, there = m.nodes[k] {
		k++
	}
	m.nodes[k] = [3]int{v, low, high}
	m.made++
	return k, api.OK
}

// of adds to a set what a node is of.
func (m *model) of(k int, set map[int]bool) map[int]bool {
	set[k] = true
	if k > 1 {
		m.of(m.nodes[k][1], set)
		m.of(m.nodes[k][2], set)
	}
	return set
}

// sweep is Sweep as the chapter says it.
func (m *model) sweep() int {
	stay := map[int]bool{0: true, 1: true}
	for k := range m.pins {
		m.of(k, stay)
	}
	before := len(m.nodes)
	for k := range before + m.budget {
		if !stay[k] {
			delete(m.nodes, k)
		}
	}
	m.sweeps++
	return before - len(m.nodes)
}

// pin is Pin as the chapter says it, but for ErrFull.
func (m *model) pin(k int) api.Errno {
	if _, there := m.nodes[k]; !there {
		return api.ErrNone
	}
	m.pins[k]++
	return api.OK
}

// unpin is Unpin as the chapter says it.
func (m *model) unpin(k int) api.Errno {
	if m.pins[k] == 0 {
		return api.ErrNone
	}
	m.pins[k]--
	if m.pins[k] == 0 {
		delete(m.pins, k)
	}
	return api.OK
}

// same wants a store to be as its model, in all that can be asked.
func (m *model) same(t *testing.T, s *node.Store) {
	t.Helper()
	counts(t, s, len(m.nodes), m.made, m.sweeps)
	for k := -1; k <= m.budget+1; k++ {
		n, there := m.nodes[k]
		if !there {
			isNone(t, s, k)
			continue
		}
		is(t, s, k, n[0], n[1], n[2])
		sized(t, s, k, len(m.of(k, map[int]bool{})))
	}
}

// play does one thing with a store, and the same with its model.
func (m *model) play(t *testing.T, s *node.Store, throw func(n int) int) {
	t.Helper()
	k := throw(m.budget+2) - 1
	switch deed := throw(100); {
	case deed < 70:
		v, low, high := throw(m.vars+2)-1, throw(m.budget+1), throw(m.budget+1)
		got, e := s.Mk(v, low, high)
		if want, f := m.mk(v, low, high); got != want || e != f {
			t.Fatalf("Mk(%d, %d, %d): %d, error %d, not %d, error %d", v, low, high, got, e, want, f)
		}
	case deed < 80:
		pin(t, s, k, m.pin(k))
	case deed < 95:
		unpin(t, s, k, m.unpin(k))
	default:
		sweep(t, s, m.sweep())
	}
}

// Nd1, Nd2, Nd3: thrown calls, against a store without speed, with room for few nodes and for some more.
func TestAgainstModel(t *testing.T) {
	for _, budget := range []int{2, 3, 4, 6, 10, 25} {
		for _, vars := range []int{0, 1, 2, 4, 6} {
			s := open(t, vars, budget)
			m := &model{vars: vars, budget: budget, nodes: map[int][3]int{0: {vars, 0, 0}, 1: {vars, 1, 1}}, pins: map[int]int{}}
			throw := dice(uint64(100*budget + vars))
			for range 4000 {
				m.play(t, s, throw)
				m.same(t, s)
			}
			said := map[uint64]int{}
			for k := range m.nodes {
				x := truth(t, s, k, vars, false)
				if other, there := said[x]; there {
					t.Fatalf("the nodes %d and %d say the same", k, other)
				}
				said[x] = k
			}
		}
	}
}

// notGiven wants a store that New did not give to answer so, whatever it is asked, and to stay so.
func notGiven(t *testing.T, s *node.Store) {
	t.Helper()
	for _, k := range append(wrong(), 0, 1, 2) {
		if n, e := s.Mk(0, 0, 1); n != 0 || e != api.ErrArg {
			t.Errorf("Mk: %d, error %d, not 0, ErrArg", n, e)
		}
		if n, e := s.Mk(k, k, k); n != 0 || e != api.ErrArg {
			t.Errorf("Mk of %d: %d, error %d, not 0, ErrArg", k, n, e)
		}
		if v, low, high, e := s.Node(k); v != 0 || low != 0 || high != 0 || e != api.ErrArg {
			t.Errorf("Node(%d): %d %d %d, error %d, not 0 0 0, ErrArg", k, v, low, high, e)
		}
		if x, e := s.Eval(k, []bool{true}); x || e != api.ErrArg {
			t.Errorf("Eval(%d): %v, error %d, not false, ErrArg", k, x, e)
		}
		if n, e := s.Size(k); n != 0 || e != api.ErrArg {
			t.Errorf("Size(%d): %d, error %d, not 0, ErrArg", k, n, e)
		}
		if e := s.Pin(k); e != api.ErrArg {
			t.Errorf("Pin(%d): error %d, not ErrArg", k, e)
		}
		if e := s.Unpin(k); e != api.ErrArg {
			t.Errorf("Unpin(%d): error %d, not ErrArg", k, e)
		}
		if n := s.Sweep(); n != 0 {
			t.Errorf("Sweep: %d, not 0", n)
		}
		if s.Len() != 0 || s.Made() != 0 || s.Sweeps() != 0 || s.Vars() != 0 {
			t.Errorf("Len %d, Made %d, Sweeps %d, Vars %d, not 0", s.Len(), s.Made(), s.Sweeps(), s.Vars())
		}
	}
}

// copied is a copy of what a pointer points to.
func copied[T any](x *T) *T {
	y := *x
	return &y
}

// Nd1, Nd2, R1: stores that New did not give: none, an empty one, and one that was copied; the one that was copied is not changed by what is asked of the copy.
func TestStoresNotGiven(t *testing.T) {
	notGiven(t, nil)
	notGiven(t, &node.Store{})
	notGiven(t, new(node.Store))
	s := open(t, 3, 10)
	k := mk(t, s, 2, 0, 1)
	m := mk(t, s, 0, k, 0)
	pin(t, s, k, api.OK)
	notGiven(t, copied(s))
	counts(t, s, 4, 2, 0)
	is(t, s, m, 0, k, 0)
	sweep(t, s, 1)
	unpin(t, s, k, api.OK)
	unpin(t, s, k, api.ErrNone)
	sweep(t, s, 1)
}

// R4: stores have nothing together, and answer the same after the same calls.
func TestStoresAreTheirOwn(t *testing.T) {
	x, y, z := open(t, 4, 20), open(t, 4, 20), open(t, 4, 20)
	throw, again := dice(5), dice(5)
	for range 2000 {
		v, low, high := throw(4), throw(20), throw(20)
		k, e := x.Mk(v, low, high)
		if throw(60) == 0 {
			x.Pin(k)
			x.Sweep()
		}
		v, low, high = again(4), again(20), again(20)
		l, f := y.Mk(v, low, high)
		if again(60) == 0 {
			y.Pin(l)
			y.Sweep()
		}
		if k != l || e != f {
			t.Fatalf("Mk(%d, %d, %d): %d, error %d, and %d, error %d", v, low, high, k, e, l, f)
		}
		counts(t, y, x.Len(), x.Made(), x.Sweeps())
	}
	counts(t, z, 2, 0, 0)
	isNone(t, z, 2)
	mks(t, z, 3, 1, 0, 2)
}

// Ways: what is counted may be asked while nodes are made beside it: Made only rises, and Len stays within the budget.
func TestCountsAreAskedBeside(t *testing.T) {
	s := open(t, api.MaxVars, 3000)
	var work sync.WaitGroup
	work.Add(1)
	go func() {
		defer work.Done()
		for range 20 {
			for v := api.MaxVars - 1; v > 0; v-- {
				s.Mk(v, 0, 1)
			}
			s.Sweep()
		}
	}()
	made, sweeps := 0, 0
	for range 20000 {
		n, m := s.Made(), s.Sweeps()
		if n < made || m < sweeps || s.Len() < 2 || s.Len() > 3000 {
			t.Errorf("Made %d behind %d, Sweeps %d behind %d, Len %d", n, made, m, sweeps, s.Len())
			break
		}
		made, sweeps = n, m
	}
	work.Wait()
	counts(t, s, 2, 20*(api.MaxVars-1), 20)
}
