package quan_test

import (
	"math"
	"slices"
	"testing"

	"osier/api"
	"osier/node"
	"osier/oper"
	"osier/quan"
)

// The calls that are asked of nodes and variables.
const (
	restrict = iota
	exists
	product
	rename
	calls // how many they are
)

// question is what is asked: of one node, or for a Product of two; of one variable, or of a list, or for a Rename of two lists.
type question struct {
	call     int
	nodes    [2]int
	vars, to []int
	value    bool
}

// ask asks it.
func (x question) ask(q *quan.Quan) (int, api.Errno) {
	switch x.call {
	case restrict:
		return q.Restrict(x.nodes[0], x.vars[0], x.value)
	case exists:
		return q.Exists(x.nodes[0], x.vars)
	case product:
		return q.Product(x.nodes[0], x.nodes[1], x.vars)
	}
	return q.Rename(x.nodes[0], x.vars, x.to)
}

// of is how many nodes it is of.
func (x question) of() int {
	if x.call == product {
		return 2
	}
	return 1
}

// said is what the node that is answered must say, where the nodes say so: the bit of a place is what is said of the values that the place's bits are.
func (x question) said(vars int, l [2]uint64) uint64 {
	switch x.call {
	case restrict:
		return half(l[0], vars, x.vars[0], x.value)
	case exists:
		return some(l[0], vars, x.vars)
	case product:
		return some(l[0]&l[1], vars, x.vars)
	}
	return renamed(l[0], vars, x.vars, x.to)
}

// all is a node that says true of all values.
func all(vars int) uint64 {
	return 1<<(1<<vars) - 1
}

// half is what is said, if a variable has a value, of all values of that variable.
func half(said uint64, vars, v int, value bool) uint64 {
	out := uint64(0)
	for place := range 1 << vars {
		from := place &^ (1 << v)
		if value {
			from |= 1 << v
		}
		out |= said >> from & 1 << place
	}
	return out
}

// some is whether something is said true for some values of variables: all of these values are gone through.
func some(said uint64, vars int, l []int) uint64 {
	marks := 0
	for _, v := range l {
		marks |= 1 << v
	}
	out := uint64(0)
	for place := range 1 << vars {
		for values := range 1 << vars {
			if values&^marks == 0 {
				out |= said >> (place&^marks | values) & 1 << place
			}
		}
	}
	return out
}

// renamed is what is said, if each variable of the one list has the value that that of the other one has.
func renamed(said uint64, vars int, from, to []int) uint64 {
	out := uint64(0)
	for place := range 1 << vars {
		values := place
		for i, v := range from {
			values = values&^(1<<v) | place>>to[i]&1<<v
		}
		out |= said >> values & 1 << place
	}
	return out
}

// truth is what a node says of all values of up to six variables.
func truth(t *testing.T, s *node.Store, k, vars int) uint64 {
	said := uint64(0)
	values := make([]bool, vars)
	for place := range 1 << vars {
		for v := range values {
			values[v] = place>>v&1 == 1
		}
		x, e := s.Eval(k, values)
		if e != api.OK {
			t.Helper()
			t.Fatalf("Eval(%d, %v): error %d", k, values, e)
		}
		if x {
			said |= 1 << place
		}
	}
	return said
}

// build is the node that says something of up to six variables, made by Mk alone.
func build(t *testing.T, s *node.Store, vars int, said uint64) int {
	t.Helper()
	var from func(v, place int) int
	from = func(v, place int) int {
		if v == vars {
			return int(said >> place & 1)
		}
		return mk(t, s, v, from(v+1, place), from(v+1, place|1<<v))
	}
	return from(0, 0)
}

// everything makes all nodes that there may be of so many variables: each by what it says.
func everything(t *testing.T, s *node.Store, vars int) []int {
	t.Helper()
	var l []int
	for said := range all(vars) + 1 {
		l = append(l, build(t, s, vars, said))
	}
	return l
}

// parts adds to a set what the nodes say, but for 0 and 1, that a node which says this is of.
func parts(said uint64, vars, v int, set map[uint64]bool) map[uint64]bool {
	if v == vars {
		return set
	}
	low, high := half(said, vars, v, false), half(said, vars, v, true)
	if low != high {
		set[said] = true
		parts(high, vars, v+1, set)
	}
	return parts(low, vars, v+1, set)
}

// truths is what each node of a store says whose numbers end below a bound, with its number.
func truths(t *testing.T, s *node.Store, vars, bound int) map[uint64]int {
	t.Helper()
	l := map[uint64]int{}
	for k := range bound {
		if there(s, k) {
			l[truth(t, s, k, vars)] = k
		}
	}
	return l
}

// missing is how many nodes there are not yet of those that one which says this is of.
func missing(said uint64, vars int, have map[uint64]int) int {
	n := 0
	for part := range parts(said, vars, 0, map[uint64]bool{}) {
		if _, there := have[part]; !there {
			n++
		}
	}
	return n
}

// open is a store that must be given, and what is asked of its nodes.
func open(t *testing.T, vars, budget int) (*node.Store, *quan.Quan) {
	t.Helper()
	s, e := node.New(vars, budget)
	if e != api.OK || s == nil {
		t.Fatalf("New(%d, %d): error %d", vars, budget, e)
	}
	o, e := oper.New(s)
	if e != api.OK || o == nil {
		t.Fatalf("New of a store: error %d", e)
	}
	return s, quantify(t, o)
}

// quantify is what New must give of operations.
func quantify(t *testing.T, o *oper.Ops) *quan.Quan {
	t.Helper()
	q, e := quan.New(o)
	if e != api.OK || q == nil {
		t.Fatalf("New: error %d", e)
	}
	return q
}

// mk wants Mk to give a node.
func mk(t *testing.T, s *node.Store, v, low, high int) int {
	k, e := s.Mk(v, low, high)
	if e != api.OK {
		t.Helper()
		t.Fatalf("Mk(%d, %d, %d): error %d", v, low, high, e)
	}
	return k
}

// pin pins nodes that must be there.
func pin(t *testing.T, s *node.Store, l ...int) {
	for _, k := range l {
		if e := s.Pin(k); e != api.OK {
			t.Helper()
			t.Fatalf("Pin(%d): error %d", k, e)
		}
	}
}

// unpin takes a pin of each of these nodes.
func unpin(t *testing.T, s *node.Store, l ...int) {
	for _, k := range l {
		if e := s.Unpin(k); e != api.OK {
			t.Helper()
			t.Fatalf("Unpin(%d): error %d", k, e)
		}
	}
}

// sweeps wants that many nodes to be swept away.
func sweeps(t *testing.T, s *node.Store, want int) {
	if n := s.Sweep(); n != want {
		t.Helper()
		t.Fatalf("Sweep: %d, not %d", n, want)
	}
}

// counts wants a store to have counted so.
func counts(t *testing.T, s *node.Store, length, made, sweeps int) {
	if s.Len() != length || s.Made() != made || s.Sweeps() != sweeps {
		t.Helper()
		t.Fatalf("Len %d, Made %d, Sweeps %d, not %d, %d, %d", s.Len(), s.Made(), s.Sweeps(), length, made, sweeps)
	}
}

// there tells whether a number is a node's.
func there(s *node.Store, k int) bool {
	_, _, _, e := s.Node(k)
	return e == api.OK
}

// gives wants a question to be answered by a node.
func gives(t *testing.T, q *quan.Quan, x question) int {
	k, e := x.ask(q)
	if e != api.OK {
		t.Helper()
		t.Fatalf("%v: error %d", x, e)
	}
	return k
}

// givesThis wants a question to be answered by the node of this number.
func givesThis(t *testing.T, q *quan.Quan, x question, want int) {
	if k, e := x.ask(q); k != want || e != api.OK {
		t.Helper()
		t.Fatalf("%v: %d, error %d, not %d", x, k, e, want)
	}
}

// refuses wants a question to be answered by an error, and nothing beside it.
func refuses(t *testing.T, q *quan.Quan, x question, want api.Errno) {
	if k, e := x.ask(q); k != 0 || e != want {
		t.Helper()
		t.Fatalf("%v: %d, error %d, not 0, error %d", x, k, e, want)
	}
}

// saysSo wants the node that answers a question to say what it must, where the nodes that were asked say so.
func saysSo(t *testing.T, s *node.Store, x question, k, vars int, said [2]uint64) {
	if got, want := truth(t, s, k, vars), x.said(vars, said); got != want {
		t.Helper()
		t.Fatalf("%v of %x: the node %d, that says %x, not %x", x, said, k, got, want)
	}
}

// must is a node that was answered.
func must(k int, e api.Errno) int {
	if e != api.OK {
		panic("an error was answered")
	}
	return k
}

// copied is a copy of what a pointer points to.
func copied[T any](x *T) *T {
	y := *x
	return &y
}

// wrong is numbers that are no node's in a store whose numbers end below a thousand: some end, cut to fewer bits, in those of nodes.
func wrong() []int {
	return []int{math.MinInt, math.MinInt + 1, -1 << 32, -3, -2, -1, 1000, api.MaxBudget, 1 << 31, 1 << 32, 1<<32 + 1, 1<<32 + 2, math.MaxInt - 1, math.MaxInt}
}

// noVariables is numbers that are no variables in a store of so many.
func noVariables(vars int) []int {
	return []int{math.MinInt, math.MinInt + 1, -1 << 32, -256, -2, -1, vars, vars + 1, 256, 257, 1 << 31, 1 << 32, 1<<32 + 1, math.MaxInt - 1, math.MaxInt}
}

// dice is a row of numbers that look thrown, the same ones each time.
func dice(seed uint64) func(n int) int {
	return func(n int) int {
		seed = seed*6364136223846793005 + 1442695040888963407
		return int(seed>>33) % n
	}
}

// throwTruth is what a thrown node may say of so many variables.
func throwTruth(throw func(n int) int, vars int) uint64 {
	return (uint64(throw(1<<22)) | uint64(throw(1<<22))<<22 | uint64(throw(1<<22))<<44) & all(vars)
}

// throwVars is a thrown list of so many variables' numbers, each any number of times in it.
func throwVars(throw func(n int) int, vars, length int) []int {
	var l []int
	for range length {
		l = append(l, throw(vars))
	}
	return l
}

// throwOrder is thrown variables, none twice.
func throwOrder(throw func(n int) int, vars, length int) []int {
	var l []int
	for len(l) < length {
		if v := throw(vars); !slices.Contains(l, v) {
			l = append(l, v)
		}
	}
	return l
}

// throwQuestion is a thrown question of that call, of variables that there are, and of no nodes yet.
func throwQuestion(throw func(n int) int, call, vars int) question {
	x := question{call: call, value: throw(2) == 1}
	switch call {
	case restrict:
		x.vars = []int{throw(vars)}
	case rename:
		x.vars = throwOrder(throw, vars, throw(vars+1))
		x.to = throwVars(throw, vars, len(x.vars))
		if throw(2) == 0 {
			x.to = throwOrder(throw, vars, len(x.vars))
		}
	default:
		x.vars = throwVars(throw, vars, throw(vars+2))
	}
	return x
}

// throwOperands is what the thrown nodes of a question say.
func throwOperands(throw func(n int) int, x question, vars int) [2]uint64 {
	var said [2]uint64
	for i := range x.of() {
		said[i] = throwTruth(throw, vars)
	}
	return said
}

// with is the question of the nodes that say this, which are built.
func (x question) with(t *testing.T, s *node.Store, vars int, said [2]uint64) question {
	t.Helper()
	for i := range x.of() {
		x.nodes[i] = build(t, s, vars, said[i])
	}
	return x
}

// subsets is all lists of variables below so many, none twice, rising.
func subsets(vars int) [][]int {
	var all [][]int
	for marks := range 1 << vars {
		var l []int
		for v := range vars {
			if marks>>v&1 == 1 {
				l = append(l, v)
			}
		}
		all = append(all, l)
	}
	return all
}

// lists is all lists of variables below so many, of that length.
func lists(vars, length int) [][]int {
	all := [][]int{nil}
	for range length {
		var next [][]int
		for _, l := range all {
			for v := range vars {
				next = append(next, append(slices.Clone(l), v))
			}
		}
		all = next
	}
	return all
}

// Qn1: New of operations of stores of all sizes, of one that has nodes, and of one that was swept: no node is made, and the operations are theirs.
func TestNew(t *testing.T) {
	for _, vars := range []int{0, 1, 2, 64, api.MaxVars} {
		for _, budget := range []int{2, 3, 100, api.MaxBudget} {
			s, q := open(t, vars, budget)
			counts(t, s, 2, 0, 0)
			if o := q.Ops(); o == nil || o.Store() != s {
				t.Fatalf("Ops of those of New(%d, %d): others", vars, budget)
			}
		}
	}
	s, q := open(t, 3, 5)
	k := mk(t, s, 2, 0, 1)
	mk(t, s, 1, 0, 1)
	pin(t, s, k)
	sweeps(t, s, 1)
	o := q.Ops()
	p := quantify(t, o)
	counts(t, s, 3, 2, 1)
	if p.Ops() != o || q.Ops() != o || p == q {
		t.Fatal("two of the same operations: theirs are others, or they are the same")
	}
	if n, e := p.Exists(k, []int{2}); n != 1 || e != api.OK {
		t.Fatalf("Exists: %d, error %d, not 1", n, e)
	}
}

// Qn1, R1: operations that are none.
func TestNewOfNoOperations(t *testing.T) {
	s, q := open(t, 3, 10)
	for i, none := range []*oper.Ops{nil, {}, new(oper.Ops), copied(q.Ops())} {
		if p, e := quan.New(none); p != nil || e != api.ErrArg {
			t.Errorf("New of the operations %d, that are none: %v, error %d, not nil, ErrArg", i, p != nil, e)
		}
	}
	counts(t, s, 2, 0, 0)
}

// Qn1: the chapter's example: Exists(x and y, x) is y.
func TestExample(t *testing.T) {
	s, q := open(t, 2, 10)
	x, y := mk(t, s, 0, 0, 1), mk(t, s, 1, 0, 1)
	both := must(q.Ops().And(x, y))
	if k, e := q.Exists(both, []int{0}); k != y || e != api.OK {
		t.Fatalf("Exists(x and y, x): %d, error %d, not %d", k, e, y)
	}
	if k, e := q.Exists(both, []int{1}); k != x || e != api.OK {
		t.Fatalf("Exists(x and y, y): %d, error %d, not %d", k, e, x)
	}
	if k, e := q.Exists(both, []int{1, 0}); k != 1 || e != api.OK {
		t.Fatalf("Exists(x and y, y and x): %d, error %d, not 1", k, e)
	}
}

// Qn1: all nodes of three variables, restricted to each value of each: the one node that says what it must; there is room for all of them, and for no more.
func TestRestrictOfAll(t *testing.T) {
	s, q := open(t, 3, 256)
	nodes := everything(t, s, 3)
	for range 2 {
		for said, k := range nodes {
			for v := range 3 {
				for _, value := range []bool{false, true} {
					x := question{call: restrict, nodes: [2]int{k}, vars: []int{v}, value: value}
					givesThis(t, q, x, nodes[x.said(3, [2]uint64{uint64(said)})])
				}
			}
		}
	}
	counts(t, s, 256, 254, 0)
}

// Qn1: all nodes of three variables, and all lists of up to four variables, in whatever order, each any number of times in them.
func TestExistsOfAll(t *testing.T) {
	s, q := open(t, 3, 256)
	nodes := everything(t, s, 3)
	for said, k := range nodes {
		for length := range 5 {
			for _, l := range lists(3, length) {
				x := question{call: exists, nodes: [2]int{k}, vars: l}
				givesThis(t, q, x, nodes[x.said(3, [2]uint64{uint64(said)})])
			}
		}
	}
	counts(t, s, 256, 254, 0)
}

// Qn1: all pairs of nodes of three variables, and all sets of variables.
func TestProductOfAll(t *testing.T) {
	s, q := open(t, 3, 256)
	nodes := everything(t, s, 3)
	for _, l := range subsets(3) {
		for i := range 1 << 16 {
			said := [2]uint64{uint64(i) & 255, uint64(i) >> 8}
			x := question{call: product, nodes: [2]int{nodes[said[0]], nodes[said[1]]}, vars: l}
			givesThis(t, q, x, nodes[x.said(3, said)])
		}
	}
	counts(t, s, 256, 254, 0)
}

// Qn1: all nodes of three variables, and all lists to rename: variables that change places, that come together, to an earlier one, to a later one, and to themselves.
func TestRenameOfAll(t *testing.T) {
	s, q := open(t, 3, 256)
	nodes := everything(t, s, 3)
	for _, from := range subsets(3) {
		for _, to := range lists(3, len(from)) {
			for said, k := range nodes {
				x := question{call: rename, nodes: [2]int{k}, vars: from, to: to}
				want := nodes[x.said(3, [2]uint64{uint64(said)})]
				givesThis(t, q, x, want)
				x.vars, x.to = slices.Clone(from), slices.Clone(to)
				slices.Reverse(x.vars)
				slices.Reverse(x.to)
				givesThis(t, q, x, want)
			}
		}
	}
	counts(t, s, 256, 254, 0)
}

// Qn1: thrown nodes of up to five variables, in stores with room: each question is answered by a node that says what it must, and that Mk alone gives, too.
func TestThrownNodes(t *testing.T) {
	throw := dice(1)
	for call := range calls {
		for range 1500 {
			vars := 1 + throw(5)
			s, q := open(t, vars, 2000)
			said := throwOperands(throw, question{call: call}, vars)
			x := throwQuestion(throw, call, vars).with(t, s, vars, said)
			k := gives(t, q, x)
			saysSo(t, s, x, k, vars, said)
			if again := build(t, s, vars, x.said(vars, said)); again != k {
				t.Fatalf("%v: %d, but made by Mk %d", x, k, again)
			}
		}
	}
}

// Qn1: 0 and 1 stay what they are, whatever is asked of them, in stores with room for nothing else, and without a variable.
func TestConstants(t *testing.T) {
	for _, vars := range []int{0, 1, 3, api.MaxVars} {
		s, q := open(t, vars, 2)
		var l, back []int
		for v := range vars {
			l = append(l, v)
			back = append([]int{v}, back...)
		}
		for a := range 2 {
			for _, list := range [][]int{nil, {}, l} {
				givesThis(t, q, question{call: exists, nodes: [2]int{a}, vars: list}, a)
				for b := range 2 {
					givesThis(t, q, question{call: product, nodes: [2]int{a, b}, vars: list}, a&b)
				}
			}
			givesThis(t, q, question{call: rename, nodes: [2]int{a}}, a)
			givesThis(t, q, question{call: rename, nodes: [2]int{a}, vars: l, to: back}, a)
			for _, v := range l {
				givesThis(t, q, question{call: restrict, nodes: [2]int{a}, vars: []int{v}}, a)
				givesThis(t, q, question{call: restrict, nodes: [2]int{a}, vars: []int{v}, value: true}, a)
			}
		}
		counts(t, s, 2, 0, 0)
	}
}

// Qn1: a store without a variable has none that may be given.
func TestNoVariableAtAll(t *testing.T) {
	s, q := open(t, 0, 10)
	for _, k := range []int{0, 1, 2, -1} {
		for _, v := range []int{0, 1, -1} {
			for call := range calls {
				refuses(t, q, question{call: call, nodes: [2]int{k, k}, vars: []int{v}, to: []int{v}}, api.ErrArg)
			}
		}
	}
	counts(t, s, 2, 0, 0)
}

// Qn1: 0 and 1 beside nodes: And of these, and nothing is made but what Exists of the other one needs.
func TestProductWithConstants(t *testing.T) {
	const vars = 4
	s, q := open(t, vars, 5000)
	throw := dice(2)
	for range 300 {
		x := question{call: exists, vars: throwVars(throw, vars, throw(4))}
		said := [2]uint64{throwTruth(throw, vars)}
		x = x.with(t, s, vars, said)
		a, l := x.nodes[0], x.vars
		k := gives(t, q, x)
		saysSo(t, s, x, k, vars, said)
		length := s.Len()
		for _, y := range []struct{ a, b, want int }{{a, 0, 0}, {0, a, 0}, {a, 1, k}, {1, a, k}, {a, a, k}} {
			givesThis(t, q, question{call: product, nodes: [2]int{y.a, y.b}, vars: l}, y.want)
		}
		if s.Len() != length {
			t.Fatalf("Len: %d, not %d", s.Len(), length)
		}
	}
}

// Qn1: variables that a node does not ask: it stays itself, and nothing is made, in a store that is full.
func TestVariablesThatAreNotAsked(t *testing.T) {
	throw := dice(3)
	for range 200 {
		said := throwTruth(throw, 3) // asks 1, 3 and 5 at the most
		var s *node.Store
		var q *quan.Quan
		k := 0
		for budget := 2; ; budget++ {
			s, q = open(t, 7, budget)
			var e api.Errno
			if k, e = odd(s, said); e == api.OK {
				break
			}
		}
		length := s.Len()
		for _, l := range [][]int{nil, {}, {0}, {2, 4, 6}, {6, 0, 6, 0}, {4}} {
			givesThis(t, q, question{call: exists, nodes: [2]int{k}, vars: l}, k)
			givesThis(t, q, question{call: product, nodes: [2]int{k, k}, vars: l}, k)
			givesThis(t, q, question{call: product, nodes: [2]int{1, k}, vars: l}, k)
			for _, v := range l {
				givesThis(t, q, question{call: restrict, nodes: [2]int{k}, vars: []int{v}, value: throw(2) == 1}, k)
			}
		}
		for _, l := range [][2][]int{{}, {{}, nil}, {{0}, {1}}, {{6, 2, 4, 0}, {1, 1, 3, 6}}, {{1}, {1}}, {{5, 3, 1}, {5, 3, 1}}, {{2, 5}, {5, 5}}} {
			givesThis(t, q, question{call: rename, nodes: [2]int{k}, vars: l[0], to: l[1]}, k)
		}
		counts(t, s, length, length-2, 0)
	}
}

// odd is the node that says of the variables 1, 3 and 5 what is said, as long as there is room.
func odd(s *node.Store, said uint64) (int, api.Errno) {
	var from func(v, place int) (int, api.Errno)
	from = func(v, place int) (int, api.Errno) {
		if v == 3 {
			return int(said >> place & 1), api.OK
		}
		low, e := from(v+1, place)
		if e != api.OK {
			return 0, e
		}
		high, e := from(v+1, place|1<<v)
		if e != api.OK {
			return 0, e
		}
		return s.Mk(2*v+1, low, high)
	}
	return from(0, 0)
}

// repeated is a list of one number so many times.
func repeated(v, length int) []int {
	return slices.Repeat([]int{v}, length)
}

// Qn1: lists of 256 variables and of more, the same one many times.
func TestLongLists(t *testing.T) {
	const vars = 3
	s, q := open(t, vars, 300)
	nodes := everything(t, s, vars)
	throw := dice(4)
	for range 300 {
		said := [2]uint64{throwTruth(throw, vars), throwTruth(throw, vars)}
		l := throwVars(throw, vars, api.MaxVars)
		if throw(2) == 0 {
			l = repeated(throw(vars), api.MaxVars)
		}
		for _, call := range []int{exists, product} {
			x := question{call: call, nodes: [2]int{nodes[said[0]], nodes[said[1]]}, vars: l}
			givesThis(t, q, x, nodes[x.said(vars, said)])
			for more := range 3 {
				x.vars = append(slices.Clone(l), throwVars(throw, vars, more+1)...)
				refuses(t, q, x, api.ErrArg)
			}
		}
	}
	for _, k := range []int{0, 1, nodes[77], -1, 1000} {
		for _, length := range []int{257, 258, 512, 65536, 1 << 20} {
			l := repeated(1, length)
			for call := exists; call < calls; call++ {
				refuses(t, q, question{call: call, nodes: [2]int{k, k}, vars: l, to: l}, api.ErrArg)
			}
		}
	}
	counts(t, s, 256, 254, 0)
}

// Qn1: variables that are none of the store, in each place of a list, beside nodes and beside numbers that are none: ErrArg, and no node is made.
func TestVariablesThatAreNone(t *testing.T) {
	for _, vars := range []int{1, 3, 200, 256} {
		s, q := open(t, vars, 500)
		k := mk(t, s, 0, 0, 1)
		for _, none := range noVariables(vars) {
			for _, n := range []int{0, 1, k, -1, 500, 1000} {
				for _, length := range []int{1, 2, 3, 255, 256} {
					for _, place := range []int{0, 1, 2, length / 2, length - 2, length - 1} {
						if place >= 0 && place < length {
							refusesVariable(t, q, n, vars, length, place, none)
						}
					}
				}
			}
		}
		counts(t, s, 3, 1, 0)
	}
}

// refusesVariable wants ErrArg where a list of that length has a variable at a place that is none of the store.
func refusesVariable(t *testing.T, q *quan.Quan, k, vars, length, place, none int) {
	t.Helper()
	var l, other []int
	for i := range length {
		l = append(l, i%vars)
		other = append(other, (i+1)%vars)
	}
	l[place] = none
	refuses(t, q, question{call: restrict, nodes: [2]int{k}, vars: []int{none}, value: place == 0}, api.ErrArg)
	refuses(t, q, question{call: exists, nodes: [2]int{k}, vars: l}, api.ErrArg)
	refuses(t, q, question{call: product, nodes: [2]int{k, 1}, vars: l}, api.ErrArg)
	refuses(t, q, question{call: product, nodes: [2]int{1, k}, vars: l}, api.ErrArg)
	refuses(t, q, question{call: rename, nodes: [2]int{k}, vars: l, to: other}, api.ErrArg)
	refuses(t, q, question{call: rename, nodes: [2]int{k}, vars: other, to: l}, api.ErrArg)
	refuses(t, q, question{call: rename, nodes: [2]int{k}, vars: l, to: l}, api.ErrArg)
}

// Qn1: the last variable of a list that there may be, and the first one that there is not.
func TestVariablesAtTheEdge(t *testing.T) {
	for _, vars := range []int{1, 2, 64, 255, 256} {
		s, q := open(t, vars, 10)
		k := mk(t, s, vars-1, 0, 1)
		givesThis(t, q, question{call: restrict, nodes: [2]int{k}, vars: []int{vars - 1}, value: true}, 1)
		givesThis(t, q, question{call: restrict, nodes: [2]int{k}, vars: []int{vars - 1}}, 0)
		givesThis(t, q, question{call: exists, nodes: [2]int{k}, vars: []int{vars - 1}}, 1)
		givesThis(t, q, question{call: product, nodes: [2]int{k, k}, vars: []int{vars - 1}}, 1)
		givesThis(t, q, question{call: rename, nodes: [2]int{k}, vars: []int{vars - 1}, to: []int{vars - 1}}, k)
		if first := gives(t, q, question{call: rename, nodes: [2]int{k}, vars: []int{vars - 1}, to: []int{0}}); first != mk(t, s, 0, 0, 1) {
			t.Fatalf("Rename of the last variable to the first one: %d", first)
		}
		for call := range calls {
			refuses(t, q, question{call: call, nodes: [2]int{k, k}, vars: []int{vars}, to: []int{0}}, api.ErrArg)
		}
		refuses(t, q, question{call: rename, nodes: [2]int{k}, vars: []int{0}, to: []int{vars}}, api.ErrArg)
	}
}

// Qn1: Rename's lists: of different lengths, and with a variable twice in from, beside nodes and beside numbers that are none; a variable twice in to may be.
func TestRenameLists(t *testing.T) {
	s, q := open(t, 4, 500)
	k := must(q.Ops().And(mk(t, s, 0, 0, 1), mk(t, s, 2, 1, 0)))
	length := s.Len()
	for _, n := range []int{0, 1, k, -1, 77, math.MaxInt} {
		for _, l := range [][2][]int{
			{nil, {0}}, {{0}, nil}, {{0}, {}}, {{0, 1}, {1}}, {{1}, {0, 1}}, {{0, 1, 2, 3}, {0, 1, 2}}, {{1, 2}, {1, 2, 3}},
			{{0, 0}, {1, 1}}, {{0, 0}, {0, 0}}, {{0, 0}, {1, 2}}, {{3, 1, 3}, {0, 1, 2}}, {{3, 1, 1}, {1, 1, 1}}, {{2, 2, 1}, {3, 3, 3}}, {{0, 1, 2, 3, 0}, {0, 1, 2, 3, 0}},
			{{0, 0}, {1}}, {{0}, {1, 1}},
		} {
			refuses(t, q, question{call: rename, nodes: [2]int{n}, vars: l[0], to: l[1]}, api.ErrArg)
		}
		for _, long := range []int{256, 257, 300} {
			refuses(t, q, question{call: rename, nodes: [2]int{n}, vars: []int{1}, to: repeated(1, long)}, api.ErrArg)
			refuses(t, q, question{call: rename, nodes: [2]int{n}, vars: repeated(1, long), to: []int{1}}, api.ErrArg)
			refuses(t, q, question{call: rename, nodes: [2]int{n}, vars: repeated(1, long), to: repeated(1, long)}, api.ErrArg)
			refuses(t, q, question{call: rename, nodes: [2]int{n}, to: repeated(1, long)}, api.ErrArg)
		}
	}
	counts(t, s, length, length-2, 0)
	// k says that 0 is true, and 2 is not.
	said := uint64(0x0a0a)
	for _, l := range [][2][]int{{{0, 1}, {3, 3}}, {{0, 2}, {3, 3}}, {{0, 2}, {2, 0}}, {{0}, {2}}, {{2}, {0}}, {{0, 2, 1, 3}, {1, 1, 1, 1}}, {{0, 1, 2, 3}, {1, 2, 3, 0}}} {
		x := question{call: rename, nodes: [2]int{k}, vars: l[0], to: l[1]}
		saysSo(t, s, x, gives(t, q, x), 4, [2]uint64{said})
	}
}

// Qn1: numbers that are no node's, in each place: ErrNone, if the lists may be, else ErrArg; no node is made.
func TestNoNodes(t *testing.T) {
	s, q := open(t, 3, 500)
	a, b := mk(t, s, 0, 0, 1), mk(t, s, 1, 0, 1)
	for _, k := range append(wrong(), s.Len(), s.Len()+1, 499, 500, 501) {
		for _, l := range [][]int{nil, {}, {0}, {2, 1}, {0, 1, 2}} {
			to := slices.Clone(l)
			slices.Reverse(to)
			refuses(t, q, question{call: exists, nodes: [2]int{k}, vars: l}, api.ErrNone)
			refuses(t, q, question{call: rename, nodes: [2]int{k}, vars: l, to: to}, api.ErrNone)
			for _, n := range []int{0, 1, a, b, k} {
				refuses(t, q, question{call: product, nodes: [2]int{k, n}, vars: l}, api.ErrNone)
				refuses(t, q, question{call: product, nodes: [2]int{n, k}, vars: l}, api.ErrNone)
			}
			for _, v := range l {
				refuses(t, q, question{call: restrict, nodes: [2]int{k}, vars: []int{v}}, api.ErrNone)
				refuses(t, q, question{call: restrict, nodes: [2]int{k}, vars: []int{v}, value: true}, api.ErrNone)
			}
			for call := range calls {
				refuses(t, q, question{call: call, nodes: [2]int{k, a}, vars: append([]int{3}, l...), to: append([]int{0}, to...)}, api.ErrArg)
				refuses(t, q, question{call: call, nodes: [2]int{k, k}, vars: append([]int{-1}, l...), to: append([]int{0}, to...)}, api.ErrArg)
			}
		}
	}
	counts(t, s, 4, 2, 0)
}

// Qn1: numbers of nodes that were swept away, though the same was found of them ahead.
func TestNoNodesAnyMore(t *testing.T) {
	const vars = 4
	throw := dice(5)
	for call := range calls {
		for range 100 {
			s, q := open(t, vars, 300)
			said := throwOperands(throw, question{call: call}, vars)
			x := throwQuestion(throw, call, vars).with(t, s, vars, said)
			gone := throw(x.of())
			if x.nodes[gone] < 2 || x.nodes[0] == x.nodes[1] {
				continue
			}
			gives(t, q, x)
			pin(t, s, x.nodes[1-gone])
			s.Sweep()
			if there(s, x.nodes[gone]) {
				continue
			}
			length, made := s.Len(), s.Made()
			refuses(t, q, x, api.ErrNone)
			refuses(t, q, x, api.ErrNone)
			counts(t, s, length, made, 1)
			again := x.with(t, s, vars, said)
			saysSo(t, s, x, gives(t, q, again), vars, said)
		}
	}
}

// notGiven wants what New did not give to answer so, whatever it is asked.
func notGiven(t *testing.T, q *quan.Quan) {
	t.Helper()
	if q.Ops() != nil {
		t.Error("Ops of what New did not give: not nil")
	}
	for _, k := range append(wrong(), 0, 1, 2, 3) {
		for _, l := range [][]int{nil, {0}, {1, 0}, {0, 0}, {-1}, {300}, repeated(0, 257)} {
			refuses(t, q, question{call: exists, nodes: [2]int{k}, vars: l}, api.ErrArg)
			refuses(t, q, question{call: product, nodes: [2]int{k, 1}, vars: l}, api.ErrArg)
			refuses(t, q, question{call: product, nodes: [2]int{0, k}, vars: l}, api.ErrArg)
			refuses(t, q, question{call: rename, nodes: [2]int{k}, vars: l, to: l}, api.ErrArg)
			refuses(t, q, question{call: rename, nodes: [2]int{k}, vars: l, to: []int{0}}, api.ErrArg)
			for _, v := range l {
				refuses(t, q, question{call: restrict, nodes: [2]int{k}, vars: []int{v}}, api.ErrArg)
			}
		}
	}
}

// Qn1, R1: what New did not give: none, empty ones, and ones that were copied, before they were asked anything and behind it.
func TestNotGiven(t *testing.T) {
	notGiven(t, nil)
	notGiven(t, &quan.Quan{})
	notGiven(t, new(quan.Quan))
	s, q := open(t, 3, 10)
	a := mk(t, s, 0, 0, mk(t, s, 1, 0, 1))
	notGiven(t, copied(q))
	x := question{call: exists, nodes: [2]int{a}, vars: []int{1}}
	k := gives(t, q, x)
	notGiven(t, copied(q))
	givesThis(t, q, x, k)
	counts(t, s, 5, 3, 0)
}

// Qn1: just those nodes are made that the answer is of and that there are not yet, with the least free numbers; asked again, none.
func TestMakesWhatMustBe(t *testing.T) {
	throw := dice(6)
	for call := range calls {
		for range 400 {
			vars := 1 + throw(5)
			s, q := open(t, vars, 1000)
			said := throwOperands(throw, question{call: call}, vars)
			x := throwQuestion(throw, call, vars).with(t, s, vars, said)
			length := s.Len()
			needs := missing(x.said(vars, said), vars, truths(t, s, vars, length))
			k := gives(t, q, x)
			saysSo(t, s, x, k, vars, said)
			counts(t, s, length+needs, length-2+needs, 0)
			if needs > 0 && k != s.Len()-1 {
				t.Fatalf("%v: %d, not %d", x, k, s.Len()-1)
			}
			givesThis(t, q, x, k)
			counts(t, s, length+needs, length-2+needs, 0)
		}
	}
}

// need is how many nodes a store has with the question's nodes alone, and how many more the answer needs.
func need(t *testing.T, x question, vars int, said [2]uint64) (base, needs int) {
	t.Helper()
	s, _ := open(t, vars, 1000)
	x.with(t, s, vars, said)
	base = s.Len()
	return base, missing(x.said(vars, said), vars, truths(t, s, vars, base))
}

// full wants a store to have as many nodes as there is room for: those that there were ahead, and beside them some of those that the node is of which says this.
func full(t *testing.T, s *node.Store, vars, budget int, have map[uint64]int, said uint64) {
	t.Helper()
	if s.Len() != budget {
		t.Fatalf("Len: %d, not %d", s.Len(), budget)
	}
	of := parts(said, vars, 0, map[uint64]bool{})
	for k := range budget {
		x := truth(t, s, k, vars)
		if n, there := have[x]; there && n != k {
			t.Fatalf("the node %d says %x, as the node %d did ahead", k, x, n)
		} else if !there && !of[x] {
			t.Fatalf("the node %d, that was made on the way, says %x: no part of %x", k, x, said)
		}
	}
}

// tooLittle asks a question in a store with too little room for what must be made.
func tooLittle(t *testing.T, x question, vars, budget int, said [2]uint64) {
	t.Helper()
	s, q := open(t, vars, budget)
	x = x.with(t, s, vars, said)
	base, have, want := s.Len(), truths(t, s, vars, budget), x.said(vars, said)
	for range 2 {
		refuses(t, q, x, api.ErrBudget)
		full(t, s, vars, budget, have, want)
		counts(t, s, budget, budget-2, 0)
	}
	for i := range x.of() {
		givesThis(t, q, question{call: exists, nodes: [2]int{x.nodes[i]}}, x.nodes[i])
		givesThis(t, q, question{call: rename, nodes: [2]int{x.nodes[i]}}, x.nodes[i])
	}
	pin(t, s, x.nodes[:x.of()]...)
	sweeps(t, s, budget-base)
	refuses(t, q, x, api.ErrBudget)
	full(t, s, vars, budget, have, want)
}

// Qn1: with just as much room as the answer's nodes need, it is given; with less, ErrBudget, and what was made till then are nodes, all of the answer's.
func TestBudget(t *testing.T) {
	throw := dice(7)
	for call := range calls {
		for range 200 {
			vars := 1 + throw(4)
			x := throwQuestion(throw, call, vars)
			said := throwOperands(throw, x, vars)
			base, needs := need(t, x, vars, said)
			for room := range needs {
				tooLittle(t, x, vars, base+room, said)
			}
			s, q := open(t, vars, base+needs)
			x = x.with(t, s, vars, said)
			saysSo(t, s, x, gives(t, q, x), vars, said)
			counts(t, s, base+needs, base+needs-2, 0)
		}
	}
}

// Qn1: the plainest nodes that there is no room for, by each call.
func TestBudgetOfPlainNodes(t *testing.T) {
	for _, row := range []struct {
		x    question
		said [2]uint64
		vars int
		room int // how many nodes must be made
	}{
		{question{call: rename, vars: []int{0}, to: []int{1}}, [2]uint64{0xa}, 2, 1},
		{question{call: rename, vars: []int{1}, to: []int{0}}, [2]uint64{0xc}, 2, 1},
		{question{call: rename, vars: []int{0, 1}, to: []int{1, 0}}, [2]uint64{0x8}, 2, 0},
		{question{call: rename, vars: []int{0, 1}, to: []int{1, 0}}, [2]uint64{0x2}, 2, 2},
		{question{call: restrict, vars: []int{1}, value: true}, [2]uint64{0x80}, 3, 1},
		{question{call: restrict, vars: []int{1}, value: false}, [2]uint64{0x80}, 3, 0},
		{question{call: exists, vars: []int{1}}, [2]uint64{0x80}, 3, 1},
		{question{call: exists, vars: []int{0}}, [2]uint64{0xe4}, 3, 1},
		{question{call: exists, vars: []int{0, 2}}, [2]uint64{0x80}, 3, 1},
		{question{call: exists, vars: []int{0, 1, 2}}, [2]uint64{0x80}, 3, 0},
		{question{call: product}, [2]uint64{0xaa, 0xcc}, 3, 1},
		{question{call: product, vars: []int{1}}, [2]uint64{0xaa, 0xcc}, 3, 0},
	} {
		base, needs := need(t, row.x, row.vars, row.said)
		if needs != row.room {
			t.Fatalf("%v of %x needs %d, not %d", row.x, row.said, needs, row.room)
		}
		for room := range needs {
			tooLittle(t, row.x, row.vars, base+room, row.said)
		}
		s, q := open(t, row.vars, base+needs)
		x := row.x.with(t, s, row.vars, row.said)
		saysSo(t, s, x, gives(t, q, x), row.vars, row.said)
	}
}

// Qn1: where ErrBudget's call left nodes, and room is made then, the same is asked again, and given.
func TestRoomAgain(t *testing.T) {
	throw := dice(8)
	for call := range calls {
		for range 300 {
			vars := 2 + throw(3)
			x := throwQuestion(throw, call, vars)
			said := throwOperands(throw, x, vars)
			base, needs := need(t, x, vars, said)
			if needs == 0 {
				continue
			}
			s, q := open(t, vars+needs, base+needs)
			x = x.with(t, s, vars, said)
			pin(t, s, x.nodes[:x.of()]...)
			var ballast []int
			for v := range 1 + throw(needs) {
				ballast = append(ballast, mk(t, s, vars+v, 0, 1))
			}
			pin(t, s, ballast...)
			refuses(t, q, x, api.ErrBudget)
			unpin(t, s, ballast...)
			refuses(t, q, x, api.ErrBudget)
			sweeps(t, s, needs)
			saysSo(t, s, x, gives(t, q, x), vars, said)
			if s.Len() != base+needs {
				t.Fatalf("Len: %d, not %d", s.Len(), base+needs)
			}
		}
	}
}

// Qn1: the same asked again, before and behind a sweep: with a pin it is the same number; without one it is made anew, and not the node that has its number now.
func TestAskedAgain(t *testing.T) {
	const vars = 4
	throw := dice(9)
	for call := range calls {
		for range 300 {
			s, q := open(t, vars+30, 300)
			said := throwOperands(throw, question{call: call}, vars)
			x := throwQuestion(throw, call, vars).with(t, s, vars, said)
			pin(t, s, x.nodes[:x.of()]...)
			k := gives(t, q, x)
			givesThis(t, q, x, k)
			pin(t, s, k)
			s.Sweep()
			givesThis(t, q, x, k)
			unpin(t, s, k)
			s.Sweep()
			for v := range throw(20) {
				mk(t, s, vars+v, 1, 0)
			}
			again := gives(t, q, x)
			saysSo(t, s, x, again, vars, said)
			givesThis(t, q, x, again)
			if k := build(t, s, vars, x.said(vars, said)); k != again {
				t.Fatalf("Mk of the same: %d, not %d", k, again)
			}
		}
	}
}

// Qn1: nodes made anew at numbers that were free: nothing is answered that was found of the former ones.
func TestNumbersGivenAgain(t *testing.T) {
	const vars = 4
	throw := dice(10)
	for call := range calls {
		s, q := open(t, vars, 60)
		for range 2000 {
			said := throwOperands(throw, question{call: call}, vars)
			x := throwQuestion(throw, call, vars).with(t, s, vars, said)
			saysSo(t, s, x, gives(t, q, x), vars, said)
			s.Sweep()
			if s.Len() != 2 {
				t.Fatalf("Len: %d, not 2", s.Len())
			}
		}
	}
}

// pick is a thrown number, mostly that of a node.
func pick(s *node.Store, budget int, throw func(n int) int) int {
	k := throw(budget + 1)
	for range throw(12) {
		if there(s, k) && k > 1 {
			return k
		}
		k = throw(budget + 1)
	}
	return k
}

// play does one thing with a store and what is asked of it: an answer is held against what the nodes say, and against what there is room for.
func play(t *testing.T, s *node.Store, q *quan.Quan, vars, budget int, throw func(n int) int) {
	t.Helper()
	some := func() int { return pick(s, budget, throw) }
	switch deed := throw(100); {
	case deed < 20:
		s.Mk(throw(vars), some(), some())
	case deed < 24:
		s.Mk(throw(vars), throw(2), throw(2))
	case deed < 30:
		s.Pin(some())
	case deed < 40:
		s.Unpin(some())
	case deed < 42:
		s.Sweep()
	case deed < 55:
		q.Ops().Xor(some(), some())
	default:
		x := throwQuestion(throw, throw(calls), vars)
		x.nodes = [2]int{some(), some()}
		asked(t, s, q, vars, budget, spoiled(x, vars, throw))
	}
}

// spoiled lets a variable of a list, now and then, be none, or a list end too early, or have a variable twice.
func spoiled(x question, vars int, throw func(n int) int) question {
	if len(x.vars) == 0 {
		return x
	}
	switch throw(20) {
	case 0:
		x.vars[throw(len(x.vars))] = noVariables(vars)[throw(15)]
	case 1:
		if x.call == rename {
			x.to[throw(len(x.to))] = noVariables(vars)[throw(15)]
		}
	case 2:
		if x.call == rename {
			x.to = x.to[:throw(len(x.to))]
		}
	case 3:
		if x.call == rename {
			x.vars, x.to = append(x.vars, x.vars[throw(len(x.vars))]), append(x.to, 0)
		}
	}
	return x
}

// mayBe tells whether a question's variables may be given.
func mayBe(x question, vars int) bool {
	none := func(v int) bool { return v < 0 || v >= vars }
	if slices.ContainsFunc(x.vars, none) {
		return false
	}
	if x.call != rename {
		return true
	}
	l := slices.Clone(x.vars)
	slices.Sort(l)
	return !slices.ContainsFunc(x.to, none) && len(x.to) == len(l) && len(slices.Compact(l)) == len(x.vars)
}

// asked asks a question of numbers, nodes' or not, and wants what the chapter says.
func asked(t *testing.T, s *node.Store, q *quan.Quan, vars, budget int, x question) {
	t.Helper()
	var said [2]uint64
	length, made, swept := s.Len(), s.Made(), s.Sweeps()
	if !mayBe(x, vars) {
		refuses(t, q, x, api.ErrArg)
		counts(t, s, length, made, swept)
		return
	}
	for i, k := range x.nodes[:x.of()] {
		if !there(s, k) {
			refuses(t, q, x, api.ErrNone)
			counts(t, s, length, made, swept)
			return
		}
		said[i] = truth(t, s, k, vars)
	}
	want, have := x.said(vars, said), truths(t, s, vars, budget)
	needs := missing(want, vars, have)
	if needs > budget-length {
		refuses(t, q, x, api.ErrBudget)
		full(t, s, vars, budget, have, want)
		counts(t, s, budget, made+budget-length, swept)
	} else {
		k := gives(t, q, x)
		saysSo(t, s, x, k, vars, said)
		if n, there := have[want]; there && n != k {
			t.Fatalf("%v of %x: %d, not %d", x, said, k, n)
		}
		counts(t, s, length+needs, made+needs, swept)
	}
	for said, k := range have {
		if got := truth(t, s, k, vars); got != said {
			t.Fatalf("the node %d says %x behind %v, not %x", k, got, x, said)
		}
	}
}

// Qn1, R2: thrown calls, in stores with room for few nodes and for some more: what is answered, what is made, and that all other nodes stay as they are.
func TestThrown(t *testing.T) {
	for _, budget := range []int{2, 3, 4, 7, 12, 20, 40} {
		for _, vars := range []int{1, 2, 3, 4} {
			s, q := open(t, vars, budget)
			throw := dice(uint64(100*budget + vars))
			for range 3000 {
				play(t, s, q, vars, budget, throw)
			}
		}
	}
}

// R3: lists are not changed, nor the room behind their ends, and they are not kept.
func TestListsStay(t *testing.T) {
	const vars = 4
	throw := dice(11)
	s, q := open(t, vars, 200)
	for range 3000 {
		call := throw(calls)
		said := throwOperands(throw, question{call: call}, vars)
		x := spoiled(throwQuestion(throw, call, vars), vars, throw).with(t, s, vars, said)
		room := [2][]int{append(slices.Clone(x.vars), -7, 300, 1), append(slices.Clone(x.to), 2, -8, 1)}
		was := [2][]int{slices.Clone(room[0]), slices.Clone(room[1])}
		length := [2]int{len(x.vars), len(x.to)}
		x.vars, x.to = room[0][:length[0]], room[1][:length[1]]
		k, e := x.ask(q)
		if !slices.Equal(room[0], was[0]) || !slices.Equal(room[1], was[1]) {
			t.Fatalf("%v: the lists are changed: %v, not %v", x, room, was)
		}
		clear(room[0])
		clear(room[1])
		x.vars, x.to = was[0][:length[0]:length[0]], was[1][:length[1]:length[1]]
		if again, f := x.ask(q); again != k || f != e || e == api.ErrBudget {
			t.Fatalf("%v: %d, error %d, not %d, error %d", x, again, f, k, e)
		}
		s.Sweep()
	}
}

// same wants two stores to have the same nodes.
func same(t *testing.T, s, r *node.Store, budget int) {
	t.Helper()
	counts(t, r, s.Len(), s.Made(), s.Sweeps())
	for k := range budget {
		v, low, high, e := s.Node(k)
		w, l, h, f := r.Node(k)
		if v != w || low != l || high != h || e != f {
			t.Fatalf("Node(%d): %d %d %d, error %d, and %d %d %d, error %d", k, v, low, high, e, w, l, h, f)
		}
	}
}

// R4: stores have nothing together, and the same calls answer the same, whatever else was asked of other ones, and of others of the same operations.
func TestTheirOwn(t *testing.T) {
	const vars, budget = 4, 30
	s, q := open(t, vars, budget)
	r, p := open(t, vars, budget)
	x, idle := open(t, vars, budget)
	throw, again := dice(12), dice(12)
	for i := range 20000 {
		play(t, s, q, vars, budget, throw)
		if i%3 == 0 {
			play(t, r, quantify(t, p.Ops()), vars, budget, again)
		} else {
			play(t, r, p, vars, budget, again)
		}
		counts(t, r, s.Len(), s.Made(), s.Sweeps())
	}
	same(t, s, r, budget)
	counts(t, x, 2, 0, 0)
	a := mk(t, x, 1, 0, 1)
	if k, e := idle.Rename(a, []int{1}, []int{2}); k != 3 || e != api.OK {
		t.Fatalf("Rename(%d): %d, error %d, not 3", a, k, e)
	}
}

// thrown is a thrown node of many variables, made by Mk alone: its nodes ask variables from 0 to below vars, but for those that are passed over.
func thrown(t *testing.T, s *node.Store, vars, width int, over []int, throw func(n int) int) int {
	t.Helper()
	l := []int{0, 1}
	for v := vars - 1; v >= 0; v-- {
		if slices.Contains(over, v) {
			continue
		}
		last := l[max(0, len(l)-2*width):]
		var next []int
		for range width {
			next = append(next, mk(t, s, v, last[throw(len(last))], last[throw(len(last))]))
		}
		l = append(l, next...)
	}
	return l[len(l)-1]
}

// laws wants of two nodes what holds of all nodes, by their numbers.
func laws(t *testing.T, q *quan.Quan, a, b, v, w int) {
	t.Helper()
	o := q.Ops()
	low, high := must(q.Restrict(a, v, false)), must(q.Restrict(a, v, true))
	both := must(q.Exists(a, []int{v, w}))
	all := must(o.Not(must(q.Exists(must(o.Not(a)), []int{v}))))
	pairs := [][2]int{
		{must(q.Exists(a, []int{v})), must(o.Or(low, high))},
		{both, must(q.Exists(must(q.Exists(a, []int{v})), []int{w}))},
		{both, must(q.Exists(must(q.Exists(a, []int{w})), []int{v}))},
		{both, must(q.Exists(a, []int{w, v, w, v, w}))},
		{both, must(q.Exists(both, []int{v, w}))},
		{all, must(o.And(low, high))},
		{a, must(q.Exists(a, nil))},
		{must(q.Exists(must(o.Or(a, b)), []int{v, w})), must(o.Or(both, must(q.Exists(b, []int{w, v}))))},
		{must(q.Product(a, b, nil)), must(o.And(a, b))},
		{must(q.Product(a, b, []int{v, w})), must(q.Exists(must(o.And(a, b)), []int{v, w}))},
		{must(q.Product(a, b, []int{v, w})), must(q.Product(b, a, []int{w, v}))},
		{must(q.Product(a, low, []int{v})), must(o.And(must(q.Exists(a, []int{v})), low))},
		{must(q.Restrict(low, v, true)), low},
		{must(q.Restrict(high, w, true)), must(q.Restrict(must(q.Restrict(a, w, true)), v, true))},
		{must(q.Restrict(must(o.Xor(a, b)), v, true)), must(o.Xor(high, must(q.Restrict(b, v, true))))},
		{must(q.Rename(a, nil, nil)), a},
		{must(q.Rename(a, []int{v}, []int{v})), a},
		{must(q.Rename(must(o.Xor(a, b)), []int{v}, []int{w})), must(o.Xor(must(q.Rename(a, []int{v}, []int{w})), must(q.Rename(b, []int{v}, []int{w}))))},
		{must(q.Rename(low, []int{v}, []int{w})), low},
	}
	if v != w {
		turned := must(q.Rename(a, []int{v, w}, []int{w, v}))
		pairs = append(pairs, [2]int{must(q.Rename(turned, []int{w, v}, []int{v, w})), a})
		// The answer does not ask the variable that has another one's value.
		to := must(q.Rename(a, []int{v}, []int{w}))
		pairs = append(pairs, [2]int{to, must(q.Exists(to, []int{v}))})
		pairs = append(pairs, [2]int{must(q.Restrict(to, w, true)), must(q.Restrict(high, w, true))})
		pairs = append(pairs, [2]int{must(q.Restrict(to, w, false)), must(q.Restrict(low, w, false))})
	}
	for i, p := range pairs {
		if p[0] != p[1] {
			t.Fatalf("the law %d of %d and %d, with %d and %d: %d, not %d", i, a, b, v, w, p[0], p[1])
		}
	}
}

// Qn2: the laws, by numbers, of thrown nodes of many variables, before and behind a sweep.
func TestLaws(t *testing.T) {
	throw := dice(13)
	for _, vars := range []int{1, 2, 5, 8, 12} {
		s, q := open(t, vars, api.MaxBudget)
		for range 60 {
			a, b := thrown(t, s, vars, 3, nil, throw), thrown(t, s, vars, 3, nil, throw)
			v, w := throw(vars), throw(vars)
			pin(t, s, a, b)
			laws(t, q, a, b, v, w)
			laws(t, q, b, a, w, v)
			s.Sweep()
			laws(t, q, a, b, v, w)
			laws(t, q, a, a, w, w)
			unpin(t, s, a, b)
			s.Sweep()
		}
	}
}

// Qn2: Rename there and back to variables that a node does not ask is the node: one variable, several, in whatever order, and through others.
func TestThereAndBack(t *testing.T) {
	const vars = 12
	throw := dice(14)
	s, q := open(t, vars, api.MaxBudget)
	for range 400 {
		over := throwOrder(throw, vars, 6)
		k := thrown(t, s, vars, 3, over, throw)
		var from []int
		for _, v := range throwOrder(throw, vars, vars) {
			if !slices.Contains(over, v) && len(from) < 1+throw(6) {
				from = append(from, v)
			}
		}
		to := over[:len(from)]
		there := must(q.Rename(k, from, to))
		for _, v := range from {
			if n := must(q.Restrict(there, v, true)); n != there {
				t.Fatalf("Rename of %v to %v: still asks %d", from, to, v)
			}
		}
		if back := must(q.Rename(there, to, from)); back != k {
			t.Fatalf("Rename of %v to %v and back: %d, not %d", from, to, back, k)
		}
		for i := len(from) - 1; i >= 0; i-- {
			there = must(q.Rename(there, []int{to[i]}, []int{from[i]}))
		}
		if there != k {
			t.Fatalf("Rename of %v to %v and back, one by one: %d, not %d", from, to, there, k)
		}
		s.Sweep()
	}
}

// remainder is the node that says whether the numbers of the variables that are true, each times a factor, come to rest modulo m.
func remainder(t *testing.T, s *node.Store, vars, factor, m, rest int) int {
	t.Helper()
	now := make([]int, m)
	now[rest] = 1
	for v := vars - 1; v >= 0; v-- {
		ahead := make([]int, m)
		for i := range m {
			ahead[i] = mk(t, s, v, now[i], now[(i+factor*(v+1))%m])
		}
		now = ahead
	}
	return now[0]
}

// remains is what such a node must say.
func remains(values []bool, factor, m, rest int) bool {
	n := 0
	for v, x := range values {
		if x {
			n += factor * (v + 1)
		}
	}
	return n%m == rest
}

// throwValues is thrown values of variables.
func throwValues(throw func(n int) int, vars int) []bool {
	values := make([]bool, vars)
	for v := range values {
		values[v] = throw(2) == 1
	}
	return values
}

// says wants a node to say this of values.
func says(t *testing.T, s *node.Store, k int, values []bool, want bool) {
	if got, e := s.Eval(k, values); got != want || e != api.OK {
		t.Helper()
		t.Fatalf("Eval(%d): %v, error %d, not %v", k, got, e, want)
	}
}

// Qn1: all variables that there may be, and nodes with far too many ways through them to be gone one by one.
func TestManyVariables(t *testing.T) {
	const vars = api.MaxVars
	s, q := open(t, vars, api.MaxBudget)
	throw := dice(15)
	a, b := remainder(t, s, vars, 1, 7, 2), remainder(t, s, vars, 3, 11, 5)
	every := make([]int, vars)
	back := make([]int, vars)
	for v := range vars {
		every[v], back[v] = v, vars-1-v
	}
	givesThis(t, q, question{call: exists, nodes: [2]int{a}, vars: every}, 1)
	givesThis(t, q, question{call: product, nodes: [2]int{a, b}, vars: back}, 1)
	givesThis(t, q, question{call: product, nodes: [2]int{a, remainder(t, s, vars, 8, 7, 3)}, vars: every}, 0)
	restricted := gives(t, q, question{call: restrict, nodes: [2]int{a}, vars: []int{100}, value: true})
	without := gives(t, q, question{call: exists, nodes: [2]int{a}, vars: []int{3, 250}})
	both := gives(t, q, question{call: product, nodes: [2]int{a, b}, vars: []int{17, 200}})
	turned := gives(t, q, question{call: rename, nodes: [2]int{a}, vars: []int{0, 5, 255, 128}, to: []int{255, 6, 0, 4}})
	around := gives(t, q, question{call: rename, nodes: [2]int{a}, vars: every, to: back})
	for range 400 {
		values := throwValues(throw, vars)
		with := func(l ...int) func(x ...bool) []bool {
			return func(x ...bool) []bool {
				w := slices.Clone(values)
				for i, v := range l {
					w[v] = x[i]
				}
				return w
			}
		}
		says(t, s, restricted, values, remains(with(100)(true), 1, 7, 2))
		lost, met := false, false
		for i := range 4 {
			lost = lost || remains(with(3, 250)(i&1 == 1, i&2 == 2), 1, 7, 2)
			w := with(17, 200)(i&1 == 1, i&2 == 2)
			met = met || remains(w, 1, 7, 2) && remains(w, 3, 11, 5)
		}
		says(t, s, without, values, lost)
		says(t, s, both, values, met)
		says(t, s, turned, values, remains(with(0, 5, 255, 128)(values[255], values[6], values[0], values[4]), 1, 7, 2))
		w := slices.Clone(values)
		slices.Reverse(w)
		says(t, s, around, values, remains(w, 1, 7, 2))
	}
	givesThis(t, q, question{call: rename, nodes: [2]int{around}, vars: every, to: back}, a)
}

// equal is the node that says whether the first variables, as many as there are pairs, are as those behind them, or, if woven, whether each of even number is as that behind it.
func equal(t *testing.T, q *quan.Quan, pairs int, woven bool) int {
	t.Helper()
	s, k := q.Ops().Store(), 1
	for i := pairs - 1; i >= 0; i-- {
		v, w := i, i+pairs
		if woven {
			v, w = 2*i, 2*i+1
		}
		x := must(q.Ops().Xor(mk(t, s, v, 0, 1), mk(t, s, w, 0, 1)))
		k = must(q.Ops().Diff(k, x))
	}
	return k
}

// unweave is lists by which pairs of variables that stand side by side come apart: the first ones, then the second ones.
func unweave(pairs int) (from, to []int) {
	for i := range pairs {
		from, to = append(from, 2*i, 2*i+1), append(to, i, i+pairs)
	}
	return from, to
}

// Qn1: variables that change places by many, with more nodes in the answer than in what it is asked of.
func TestManyThatChangePlaces(t *testing.T) {
	const pairs = 8
	s, q := open(t, 2*pairs, api.MaxBudget)
	woven, apart := equal(t, q, pairs, true), equal(t, q, pairs, false)
	from, to := unweave(pairs)
	givesThis(t, q, question{call: rename, nodes: [2]int{woven}, vars: from, to: to}, apart)
	givesThis(t, q, question{call: rename, nodes: [2]int{apart}, vars: to, to: from}, woven)
	few, many := must(s.Size(woven)), must(s.Size(apart))
	if few != 3*pairs+2 || many != 3<<pairs-1 {
		t.Fatalf("Size: %d and %d", few, many)
	}
}

// Qn1: the greatest budget: what no store has room for is ErrBudget; nodes stay what they are, and behind a sweep what there is room for is given.
func TestGreatestBudget(t *testing.T) {
	const pairs = 24
	s, q := open(t, 2*pairs, api.MaxBudget)
	woven := equal(t, q, pairs, true)
	from, to := unweave(pairs)
	refuses(t, q, question{call: rename, nodes: [2]int{woven}, vars: from, to: to}, api.ErrBudget)
	pin(t, s, woven)
	s.Sweep()
	if size := must(s.Size(woven)); size != 3*pairs+2 || s.Len() != size {
		t.Fatalf("Size %d, Len %d, not %d", size, s.Len(), 3*pairs+2)
	}
	givesThis(t, q, question{call: exists, nodes: [2]int{woven}, vars: to}, 1)
	givesThis(t, q, question{call: rename, nodes: [2]int{woven}, vars: []int{0, 1, 2, 3}, to: []int{2, 3, 0, 1}}, woven)
	k := gives(t, q, question{call: restrict, nodes: [2]int{woven}, vars: []int{0}, value: true})
	givesThis(t, q, question{call: restrict, nodes: [2]int{k}, vars: []int{1}}, 0)
}

// Qn1: the greatest budget, filled by the answer's nodes themselves: ErrBudget, with all numbers nodes'.
func TestGreatestBudgetFull(t *testing.T) {
	s, q := open(t, api.MaxVars, api.MaxBudget)
	a, b := remainder(t, s, api.MaxVars, 1, 61, 3), remainder(t, s, api.MaxVars, 7, 59, 5)
	pin(t, s, a, b)
	s.Sweep()
	base := s.Len()
	x := question{call: product, nodes: [2]int{a, b}, vars: []int{255}}
	k := gives(t, q, x)
	size := must(s.Size(k))
	if size < api.MaxBudget/2 || size > api.MaxBudget-base {
		t.Fatalf("Size(%d): %d", k, size)
	}
	y := question{call: rename, nodes: [2]int{k}, vars: []int{254, 255}, to: []int{255, 254}}
	refuses(t, q, y, api.ErrBudget)
	counts(t, s, api.MaxBudget, s.Made(), s.Sweeps())
	if !there(s, api.MaxBudget-1) || there(s, api.MaxBudget) {
		t.Fatal("the greatest number is no node's, or one beyond it is")
	}
	s.Sweep()
	if again := must(s.Size(gives(t, q, x))); again != size {
		t.Fatalf("Size: %d, not %d", again, size)
	}
}
