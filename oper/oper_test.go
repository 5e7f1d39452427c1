package oper_test

import (
	"math"
	"testing"

	"osier/api"
	"osier/node"
	"osier/oper"
)

// operation is one of the operations: of how many nodes it is, how it is asked, and what its node must say where theirs say so.
type operation struct {
	name  string
	nodes int
	ask   func(o *oper.Ops, l [3]int) (int, api.Errno)
	says  func(a, b, c bool) bool
}

// operations is all six.
func operations() []operation {
	return []operation{
		{"Not", 1, func(o *oper.Ops, l [3]int) (int, api.Errno) { return o.Not(l[0]) }, func(a, b, c bool) bool { return !a }},
		{"And", 2, func(o *oper.Ops, l [3]int) (int, api.Errno) { return o.And(l[0], l[1]) }, func(a, b, c bool) bool { return a && b }},
		{"Or", 2, func(o *oper.Ops, l [3]int) (int, api.Errno) { return o.Or(l[0], l[1]) }, func(a, b, c bool) bool { return a || b }},
		{"Xor", 2, func(o *oper.Ops, l [3]int) (int, api.Errno) { return o.Xor(l[0], l[1]) }, func(a, b, c bool) bool { return a != b }},
		{"Diff", 2, func(o *oper.Ops, l [3]int) (int, api.Errno) { return o.Diff(l[0], l[1]) }, func(a, b, c bool) bool { return a && !b }},
		{"Ite", 3, func(o *oper.Ops, l [3]int) (int, api.Errno) { return o.Ite(l[0], l[1], l[2]) }, func(a, b, c bool) bool { return a && b || !a && c }},
	}
}

// said is what the operation's node must say, where its nodes say so: the bit of a place is what is said of the values that the place's bits are.
func (op operation) said(vars int, l [3]uint64) uint64 {
	said := uint64(0)
	for place := range 1 << vars {
		if op.says(l[0]>>place&1 == 1, l[1]>>place&1 == 1, l[2]>>place&1 == 1) {
			said |= 1 << place
		}
	}
	return said
}

// open is a store that must be given, and its operations.
func open(t *testing.T, vars, budget int) (*node.Store, *oper.Ops) {
	t.Helper()
	s, e := node.New(vars, budget)
	if e != api.OK || s == nil {
		t.Fatalf("New(%d, %d): error %d", vars, budget, e)
	}
	return s, operate(t, s)
}

// operate is the operations of a store, that must be given.
func operate(t *testing.T, s *node.Store) *oper.Ops {
	t.Helper()
	o, e := oper.New(s)
	if e != api.OK || o == nil {
		t.Fatalf("New: error %d", e)
	}
	return o
}

// mk wants Mk to give a node.
func mk(t *testing.T, s *node.Store, v, low, high int) int {
	k, e := s.Mk(v, low, high)
	if e != api.OK {
		t.Helper()
		t.Fatalf("Mk(%d, %d, %d): error %d", v, low, high, e)
	}
	return k
}

// pin pins nodes that must be there.
func pin(t *testing.T, s *node.Store, l ...int) {
	for _, k := range l {
		if e := s.Pin(k); e != api.OK {
			t.Helper()
			t.Fatalf("Pin(%d): error %d", k, e)
		}
	}
}

// unpin takes a pin of each of these nodes.
func unpin(t *testing.T, s *node.Store, l ...int) {
	for _, k := range l {
		if e := s.Unpin(k); e != api.OK {
			t.Helper()
			t.Fatalf("Unpin(%d): error %d", k, e)
		}
	}
}

// gives wants an operation to give a node.
func gives(t *testing.T, op operation, o *oper.Ops, l [3]int) int {
	k, e := op.ask(o, l)
	if e != api.OK {
		t.Helper()
		t.Fatalf("%s of %v: error %d", op.name, l, e)
	}
	return k
}

// givesThis wants an operation to give the node of this number.
func givesThis(t *testing.T, op operation, o *oper.Ops, l [3]int, want int) {
	if k, e := op.ask(o, l); k != want || e != api.OK {
		t.Helper()
		t.Fatalf("%s of %v: %d, error %d, not %d", op.name, l, k, e, want)
	}
}

// refuses wants an operation to answer an error, and nothing beside it.
func refuses(t *testing.T, op operation, o *oper.Ops, l [3]int, want api.Errno) {
	if k, e := op.ask(o, l); k != 0 || e != want {
		t.Helper()
		t.Fatalf("%s of %v: %d, error %d, not 0, error %d", op.name, l, k, e, want)
	}
}

// counts wants a store to have counted so.
func counts(t *testing.T, s *node.Store, length, made, sweeps int) {
	if s.Len() != length || s.Made() != made || s.Sweeps() != sweeps {
		t.Helper()
		t.Fatalf("Len %d, Made %d, Sweeps %d, not %d, %d, %d", s.Len(), s.Made(), s.Sweeps(), length, made, sweeps)
	}
}

// there tells whether a number is a node's.
func there(s *node.Store, k int) bool {
	_, _, _, e := s.Node(k)
	return e == api.OK
}

// sweeps wants that many nodes to be swept away.
func sweeps(t *testing.T, s *node.Store, want int) {
	if n := s.Sweep(); n != want {
		t.Helper()
		t.Fatalf("Sweep: %d, not %d", n, want)
	}
}

// all is a node that says true of all values.
func all(vars int) uint64 {
	return 1<<(1<<vars) - 1
}

// truth is what a node says of all values of up to six variables.
func truth(t *testing.T, s *node.Store, k, vars int) uint64 {
	said := uint64(0)
	values := make([]bool, vars)
	for place := range 1 << vars {
		for v := range values {
			values[v] = place>>v&1 == 1
		}
		x, e := s.Eval(k, values)
		if e != api.OK {
			t.Helper()
			t.Fatalf("Eval(%d, %v): error %d", k, values, e)
		}
		if x {
			said |= 1 << place
		}
	}
	return said
}

// build is the node that says something of up to six variables, made by Mk alone.
func build(t *testing.T, s *node.Store, vars int, said uint64) int {
	t.Helper()
	var from func(v, place int) int
	from = func(v, place int) int {
		if v == vars {
			return int(said >> place & 1)
		}
		return mk(t, s, v, from(v+1, place), from(v+1, place|1<<v))
	}
	return from(0, 0)
}

// half is what is said, if a variable has a value, of all values of that variable.
func half(said uint64, vars, v int, value bool) uint64 {
	out := uint64(0)
	for place := range 1 << vars {
		from := place &^ (1 << v)
		if value {
			from |= 1 << v
		}
		out |= said >> from & 1 << place
	}
	return out
}

// parts adds to a set what the nodes say, but for 0 and 1, that a node which says this is of.
func parts(said uint64, vars, v int, set map[uint64]bool) map[uint64]bool {
	if v == vars {
		return set
	}
	low, high := half(said, vars, v, false), half(said, vars, v, true)
	if low != high {
		set[said] = true
		parts(high, vars, v+1, set)
	}
	return parts(low, vars, v+1, set)
}

// truths is what each node of a store says whose numbers end below a bound, with its number.
func truths(t *testing.T, s *node.Store, vars, bound int) map[uint64]int {
	t.Helper()
	l := map[uint64]int{}
	for k := range bound {
		if there(s, k) {
			l[truth(t, s, k, vars)] = k
		}
	}
	return l
}

// missing is how many nodes there are not yet of those that one which says this is of.
func missing(said uint64, vars int, have map[uint64]int) int {
	n := 0
	for part := range parts(said, vars, 0, map[uint64]bool{}) {
		if _, there := have[part]; !there {
			n++
		}
	}
	return n
}

// everything makes all nodes that there may be of so many variables: each by what it says.
func everything(t *testing.T, s *node.Store, vars int) []int {
	t.Helper()
	var l []int
	for said := range all(vars) + 1 {
		l = append(l, build(t, s, vars, said))
	}
	return l
}

// wrong is numbers that are no node's in a store whose numbers end below a thousand: some end, cut to fewer bits, in those of nodes.
func wrong() []int {
	return []int{math.MinInt, math.MinInt + 1, -1 << 32, -3, -2, -1, 1000, api.MaxBudget, 1 << 31, 1 << 32, 1<<32 + 1, 1<<32 + 2, math.MaxInt - 1, math.MaxInt}
}

// dice is a row of numbers that look thrown, the same ones each time.
func dice(seed uint64) func(n int) int {
	return func(n int) int {
		seed = seed*6364136223846793005 + 1442695040888963407
		return int(seed>>33) % n
	}
}

// throwTruth is what a thrown node may say of so many variables.
func throwTruth(throw func(n int) int, vars int) uint64 {
	return (uint64(throw(1<<22)) | uint64(throw(1<<22))<<22 | uint64(throw(1<<22))<<44) & all(vars)
}

// Op1: operations of stores of all sizes, of one that has nodes, and of one that was swept: no node is made, and the store is their store.
func TestNew(t *testing.T) {
	for _, vars := range []int{0, 1, 2, 64, api.MaxVars} {
		for _, budget := range []int{2, 3, 100, api.MaxBudget} {
			s, o := open(t, vars, budget)
			counts(t, s, 2, 0, 0)
			if o.Store() != s {
				t.Fatalf("Store of New of New(%d, %d) is another one", vars, budget)
			}
		}
	}
	s, o := open(t, 3, 5)
	k := mk(t, s, 2, 0, 1)
	mk(t, s, 1, 0, 1)
	pin(t, s, k)
	sweeps(t, s, 1)
	p := operate(t, s)
	counts(t, s, 3, 2, 1)
	if o.Store() != s || p.Store() != s || o == p {
		t.Fatal("two operations of one store: their stores are others, or they are the same")
	}
	if n, e := p.And(k, k); n != k || e != api.OK {
		t.Fatalf("And(%d, %d): %d, error %d", k, k, n, e)
	}
}

// copied is a copy of what a pointer points to.
func copied[T any](x *T) *T {
	y := *x
	return &y
}

// Op1, R1: stores that are none.
func TestNewOfNoStore(t *testing.T) {
	s, _ := open(t, 3, 10)
	for i, none := range []*node.Store{nil, {}, new(node.Store), copied(s)} {
		if o, e := oper.New(none); o != nil || e != api.ErrArg {
			t.Errorf("New of the store %d, that is none: %v, error %d, not nil, ErrArg", i, o != nil, e)
		}
	}
	counts(t, s, 2, 0, 0)
}

// Op1: the chapter's example: And(x, Not(x)) is 0.
func TestExample(t *testing.T) {
	s, o := open(t, 1, 10)
	x := mk(t, s, 0, 0, 1)
	not, e := o.Not(x)
	if not != 3 || e != api.OK {
		t.Fatalf("Not(%d): %d, error %d, not 3", x, not, e)
	}
	if k, e := o.And(x, not); k != 0 || e != api.OK {
		t.Fatalf("And(%d, %d): %d, error %d, not 0", x, not, k, e)
	}
	if v, low, high, e := s.Node(not); v != 0 || low != 1 || high != 0 || e != api.OK {
		t.Fatalf("Node(%d): %d %d %d, error %d, not 0 1 0", not, v, low, high, e)
	}
}

// Op1: all operations of all nodes of two variables: each is the one node that says what it must; there is room for all of them, and for no more.
func TestAllOfTwoVariables(t *testing.T) {
	s, o := open(t, 2, 16)
	nodes := everything(t, s, 2)
	counts(t, s, 16, 14, 0)
	for range 2 {
		for _, op := range operations() {
			for i := range 1 << 12 {
				said := [3]uint64{uint64(i) & 15, uint64(i) >> 4 & 15, uint64(i) >> 8}
				givesThis(t, op, o, [3]int{nodes[said[0]], nodes[said[1]], nodes[said[2]]}, nodes[op.said(2, said)])
			}
		}
	}
	counts(t, s, 16, 14, 0)
}

// Op1: all operations of all pairs of nodes of three variables, with a thrown third one: each is the one node that says what it must.
func TestAllOfThreeVariables(t *testing.T) {
	s, o := open(t, 3, 256)
	nodes := everything(t, s, 3)
	throw := dice(1)
	for _, op := range operations() {
		for i := range 1 << 16 {
			said := [3]uint64{uint64(i) & 255, uint64(i) >> 8, uint64(throw(256))}
			givesThis(t, op, o, [3]int{nodes[said[0]], nodes[said[1]], nodes[said[2]]}, nodes[op.said(3, said)])
		}
	}
	counts(t, s, 256, 254, 0)
}

// Op1: 0 and 1 say what they must, in stores without a variable and with room for nothing else.
func TestConstants(t *testing.T) {
	for _, vars := range []int{0, 1, api.MaxVars} {
		s, o := open(t, vars, 2)
		for _, op := range operations() {
			for i := range 8 {
				l := [3]int{i & 1, i >> 1 & 1, i >> 2}
				want := 0
				if op.says(l[0] == 1, l[1] == 1, l[2] == 1) {
					want = 1
				}
				givesThis(t, op, o, l, want)
			}
		}
		counts(t, s, 2, 0, 0)
	}
}

// Op1: nodes with 0 and 1, with themselves, and with their Nots: where the answer is one of these, nothing is made, and no room needed.
func TestNodesWithThemselves(t *testing.T) {
	s, o := open(t, 4, 200)
	throw := dice(2)
	l := map[string]operation{}
	for _, op := range operations() {
		l[op.name] = op
	}
	for range 300 {
		x, y := build(t, s, 4, throwTruth(throw, 4)), build(t, s, 4, throwTruth(throw, 4))
		n := gives(t, l["Not"], o, [3]int{x})
		length, made := s.Len(), s.Made()
		rows := []struct {
			name    string
			a, b, c int
			want    int
		}{
			{"Not", n, 0, 0, x},
			{"And", x, 0, 0, 0}, {"And", 0, x, 0, 0}, {"And", x, 1, 0, x}, {"And", 1, x, 0, x}, {"And", x, x, 0, x}, {"And", x, n, 0, 0}, {"And", n, x, 0, 0},
			{"Or", x, 0, 0, x}, {"Or", 0, x, 0, x}, {"Or", x, 1, 0, 1}, {"Or", 1, x, 0, 1}, {"Or", x, x, 0, x}, {"Or", x, n, 0, 1}, {"Or", n, x, 0, 1},
			{"Xor", x, 0, 0, x}, {"Xor", 0, x, 0, x}, {"Xor", x, 1, 0, n}, {"Xor", 1, x, 0, n}, {"Xor", x, x, 0, 0}, {"Xor", x, n, 0, 1}, {"Xor", n, x, 0, 1},
			{"Diff", x, 0, 0, x}, {"Diff", 0, x, 0, 0}, {"Diff", x, 1, 0, 0}, {"Diff", 1, x, 0, n}, {"Diff", x, x, 0, 0}, {"Diff", x, n, 0, x}, {"Diff", n, x, 0, n},
			{"Ite", 0, x, y, y}, {"Ite", 1, x, y, x}, {"Ite", x, 1, 0, x}, {"Ite", x, 0, 1, n}, {"Ite", y, x, x, x}, {"Ite", x, x, x, x}, {"Ite", x, n, x, 0}, {"Ite", x, x, n, 1},
			{"Ite", x, x, 0, x}, {"Ite", x, x, 1, 1}, {"Ite", x, 0, x, 0}, {"Ite", x, 1, x, x}, {"Ite", x, n, 0, 0}, {"Ite", x, n, 1, n}, {"Ite", x, 0, n, n}, {"Ite", x, 1, n, 1},
		}
		for _, r := range rows {
			givesThis(t, l[r.name], o, [3]int{r.a, r.b, r.c}, r.want)
		}
		counts(t, s, length, made, s.Sweeps())
		s.Sweep()
	}
}

// Op1: numbers that are no node's, in each place, with all others beside them, even where these tell the answer.
func TestNoNodes(t *testing.T) {
	s, o := open(t, 3, 500)
	a, b := mk(t, s, 0, 0, 1), mk(t, s, 1, 0, 1)
	for _, op := range operations() {
		for _, k := range append(wrong(), s.Len(), s.Len()+1, 499, 500, 501) {
			for _, x := range []int{0, 1, a, b, k} {
				for _, y := range []int{0, 1, a, b, k} {
					for place := range op.nodes {
						l := [3]int{x, y, x}
						l[place] = k
						refuses(t, op, o, l, api.ErrNone)
					}
				}
			}
		}
	}
	counts(t, s, 4, 2, 0)
}

// Op1: numbers of nodes that were swept away, though the same was found of them ahead.
func TestNoNodesAnyMore(t *testing.T) {
	for _, op := range operations() {
		for gone := range op.nodes {
			s, o := open(t, 4, 100)
			var l [3]int
			for i := range l {
				l[i] = mk(t, s, i, 0, 1)
				if i != gone {
					pin(t, s, l[i])
				}
			}
			gives(t, op, o, l)
			s.Sweep()
			length, made := s.Len(), s.Made()
			refuses(t, op, o, l, api.ErrNone)
			refuses(t, op, o, l, api.ErrNone)
			counts(t, s, length, made, 1)
			if again := mk(t, s, gone, 0, 1); again != l[gone] {
				t.Fatalf("Mk: %d, not %d", again, l[gone])
			}
			saysSo(t, op, s, gives(t, op, o, l), 3, [3]uint64{0xaa, 0xcc, 0xf0})
		}
	}
}

// notGiven wants operations that New did not give to answer so, whatever they are asked.
func notGiven(t *testing.T, o *oper.Ops) {
	t.Helper()
	if o.Store() != nil {
		t.Error("Store of operations that are none: not nil")
	}
	for _, op := range operations() {
		for _, k := range append(wrong(), 0, 1, 2, 3) {
			for _, l := range [][3]int{{k, k, k}, {k, 1, 2}, {1, k, 0}, {0, 1, k}} {
				refuses(t, op, o, l, api.ErrArg)
			}
		}
	}
}

// Op1, R1: operations that New did not give: none, empty ones, and ones that were copied, before they were asked anything and behind it.
func TestOperationsNotGiven(t *testing.T) {
	notGiven(t, nil)
	notGiven(t, &oper.Ops{})
	notGiven(t, new(oper.Ops))
	s, o := open(t, 3, 10)
	a, b := mk(t, s, 0, 0, 1), mk(t, s, 1, 0, 1)
	notGiven(t, copied(o))
	k, e := o.And(a, b)
	if e != api.OK {
		t.Fatalf("And(%d, %d): error %d", a, b, e)
	}
	notGiven(t, copied(o))
	if again, e := o.And(b, a); again != k || e != api.OK {
		t.Fatalf("And(%d, %d): %d, error %d, not %d", b, a, again, e, k)
	}
	counts(t, s, 5, 3, 0)
}

// Op1: just those nodes are made that the answer is of and that there are not yet, with the least free numbers.
func TestMakesWhatMustBe(t *testing.T) {
	throw := dice(3)
	for _, op := range operations() {
		for range 300 {
			vars := 1 + throw(5)
			s, o := open(t, vars, 1000)
			said := throwOperands(throw, op, vars)
			l := operands(t, op, s, vars, said)
			want := op.said(vars, said)
			length := s.Len()
			needs := missing(want, vars, truths(t, s, vars, length))
			k := gives(t, op, o, l)
			saysSo(t, op, s, k, vars, said)
			counts(t, s, length+needs, length-2+needs, 0)
			if needs > 0 && k != s.Len()-1 {
				t.Fatalf("%s of %v: %d, not %d", op.name, l, k, s.Len()-1)
			}
			givesThis(t, op, o, l, k)
			if k := build(t, s, vars, want); !there(s, k) {
				t.Fatalf("Node(%d): not there", k)
			}
			counts(t, s, length+needs, length-2+needs, 0)
		}
	}
}

// operands builds what nodes say, as many as an operation is of.
func operands(t *testing.T, op operation, s *node.Store, vars int, said [3]uint64) [3]int {
	t.Helper()
	var l [3]int
	for i := range op.nodes {
		l[i] = build(t, s, vars, said[i])
	}
	return l
}

// saysSo wants a node to say what the operation's answer must, where its nodes say so.
func saysSo(t *testing.T, op operation, s *node.Store, k, vars int, said [3]uint64) {
	t.Helper()
	if got, want := truth(t, s, k, vars), op.said(vars, said); got != want {
		t.Fatalf("%s of %x: the node %d, that says %x, not %x", op.name, said, k, got, want)
	}
}

// throwOperands is what thrown nodes say, as many as an operation is of.
func throwOperands(throw func(n int) int, op operation, vars int) [3]uint64 {
	var said [3]uint64
	for i := range op.nodes {
		said[i] = throwTruth(throw, vars)
	}
	return said
}

// need is how many nodes a store has with the operation's nodes alone, and how many more the answer needs.
func need(t *testing.T, op operation, vars int, said [3]uint64) (base, needs int) {
	t.Helper()
	s, _ := open(t, vars, 1000)
	operands(t, op, s, vars, said)
	base = s.Len()
	return base, missing(op.said(vars, said), vars, truths(t, s, vars, base))
}

// full wants a store to have as many nodes as there is room for: those that there were ahead, and beside them some of those that the node is of which says this.
func full(t *testing.T, s *node.Store, vars, budget int, have map[uint64]int, said uint64) {
	t.Helper()
	if s.Len() != budget {
		t.Fatalf("Len: %d, not %d", s.Len(), budget)
	}
	of := parts(said, vars, 0, map[uint64]bool{})
	for k := range budget {
		x := truth(t, s, k, vars)
		if n, there := have[x]; there && n != k {
			t.Fatalf("the node %d says %x, as the node %d did ahead", k, x, n)
		} else if !there && !of[x] {
			t.Fatalf("the node %d, that was made on the way, says %x: no part of %x", k, x, said)
		}
	}
}

// tooLittle asks an operation in a store with too little room for what must be made.
func tooLittle(t *testing.T, op operation, vars, budget int, said [3]uint64) {
	t.Helper()
	s, o := open(t, vars, budget)
	l := operands(t, op, s, vars, said)
	base, have, want := s.Len(), truths(t, s, vars, budget), op.said(vars, said)
	for range 2 {
		refuses(t, op, o, l, api.ErrBudget)
		full(t, s, vars, budget, have, want)
		counts(t, s, budget, budget-2, 0)
	}
	for i := range op.nodes {
		if k, e := o.And(l[i], l[i]); k != l[i] || e != api.OK {
			t.Fatalf("And(%d, %d): %d, error %d", l[i], l[i], k, e)
		}
		if k, e := o.Xor(l[i], l[i]); k != 0 || e != api.OK {
			t.Fatalf("Xor(%d, %d): %d, error %d", l[i], l[i], k, e)
		}
	}
	pin(t, s, l[:op.nodes]...)
	sweeps(t, s, budget-base)
	refuses(t, op, o, l, api.ErrBudget)
	full(t, s, vars, budget, have, want)
}

// Op1: with just as much room as the answer's nodes need, it is given; with less, ErrBudget, and what was made till then are nodes, all of the answer's.
func TestBudget(t *testing.T) {
	throw := dice(4)
	for _, op := range operations() {
		for range 150 {
			vars := 1 + throw(4)
			said := throwOperands(throw, op, vars)
			base, needs := need(t, op, vars, said)
			for room := range needs {
				tooLittle(t, op, vars, base+room, said)
			}
			s, o := open(t, vars, base+needs)
			l := operands(t, op, s, vars, said)
			k := gives(t, op, o, l)
			counts(t, s, base+needs, base+needs-2, 0)
			saysSo(t, op, s, k, vars, said)
		}
	}
}

// Op1: where ErrBudget's call left nodes, and room is made then, the same is asked again, and given.
func TestRoomAgain(t *testing.T) {
	throw := dice(5)
	for _, op := range operations() {
		for range 200 {
			vars := 2 + throw(3)
			said := throwOperands(throw, op, vars)
			base, needs := need(t, op, vars, said)
			if needs == 0 {
				continue
			}
			s, o := open(t, vars+needs, base+needs)
			l := operands(t, op, s, vars, said)
			pin(t, s, l[:op.nodes]...)
			var ballast []int
			for v := range 1 + throw(needs) {
				ballast = append(ballast, mk(t, s, vars+v, 0, 1))
			}
			pin(t, s, ballast...)
			refuses(t, op, o, l, api.ErrBudget)
			unpin(t, s, ballast...)
			refuses(t, op, o, l, api.ErrBudget)
			sweeps(t, s, needs)
			saysSo(t, op, s, gives(t, op, o, l), vars, said)
			if s.Len() != base+needs {
				t.Fatalf("Len: %d, not %d", s.Len(), base+needs)
			}
		}
	}
}

// Op1, Op2: the same asked again, before and behind a sweep: with a pin it is the same number; without one it is made anew, and not the node that has its number now.
func TestAskedAgain(t *testing.T) {
	const vars = 4
	throw := dice(6)
	for _, op := range operations() {
		for range 300 {
			s, o := open(t, vars+30, 200)
			said := throwOperands(throw, op, vars)
			l := operands(t, op, s, vars, said)
			pin(t, s, l[:op.nodes]...)
			k := gives(t, op, o, l)
			givesThis(t, op, o, l, k)
			pin(t, s, k)
			s.Sweep()
			givesThis(t, op, o, l, k)
			unpin(t, s, k)
			s.Sweep()
			for v := range throw(20) {
				mk(t, s, vars+v, 1, 0)
			}
			if throw(2) == 0 {
				refuses(t, op, o, [3]int{-1, -1, -1}, api.ErrNone)
			}
			again := gives(t, op, o, l)
			saysSo(t, op, s, again, vars, said)
			givesThis(t, op, o, l, again)
			if k := build(t, s, vars, op.said(vars, said)); k != again {
				t.Fatalf("Mk of the same: %d, not %d", k, again)
			}
		}
	}
}

// Op1: nodes made anew at numbers that were free: what was found of the former ones is forgotten.
func TestNumbersGivenAgain(t *testing.T) {
	const vars = 4
	throw := dice(7)
	for _, op := range operations() {
		s, o := open(t, vars, 60)
		for range 2000 {
			said := throwOperands(throw, op, vars)
			l := operands(t, op, s, vars, said)
			saysSo(t, op, s, gives(t, op, o, l), vars, said)
			s.Sweep()
			if s.Len() != 2 {
				t.Fatalf("Len: %d, not 2", s.Len())
			}
		}
	}
}

// Op1: two operations of one store, each with what it found: a sweep is told to both, whoever asks first.
func TestTwoOperationsOfOneStore(t *testing.T) {
	const vars = 4
	throw := dice(8)
	s, o := open(t, vars, 80)
	both := [2]*oper.Ops{o, operate(t, s)}
	l := operations()
	for range 6000 {
		op := l[throw(len(l))]
		said := throwOperands(throw, op, vars)
		k := operands(t, op, s, vars, said)
		first := throw(2)
		if throw(3) == 0 {
			saysSo(t, op, s, gives(t, op, both[first], k), vars, said)
			s.Sweep()
			continue
		}
		n := gives(t, op, both[first], k)
		givesThis(t, op, both[1-first], k, n)
		saysSo(t, op, s, n, vars, said)
		if s.Len() > 30 {
			s.Sweep()
		}
	}
}

// play does one thing with a store and its operations: an operation is held against what its nodes say, and against what there is room for.
func play(t *testing.T, s *node.Store, o *oper.Ops, vars, budget int, throw func(n int) int) {
	t.Helper()
	all := operations()
	switch deed := throw(100); {
	case deed < 30:
		s.Mk(throw(vars), throw(budget), throw(budget))
	case deed < 36:
		s.Pin(throw(budget))
	case deed < 48:
		s.Unpin(throw(budget))
	case deed < 52:
		s.Sweep()
	default:
		op := all[throw(len(all))]
		l := [3]int{throw(budget + 1), throw(budget + 1), throw(budget + 1)}
		asked(t, op, s, o, vars, budget, l)
	}
}

// asked asks an operation of numbers, nodes' or not, and wants what the chapter says.
func asked(t *testing.T, op operation, s *node.Store, o *oper.Ops, vars, budget int, l [3]int) {
	t.Helper()
	var said [3]uint64
	length, made, swept := s.Len(), s.Made(), s.Sweeps()
	for i, k := range l[:op.nodes] {
		if !there(s, k) {
			refuses(t, op, o, l, api.ErrNone)
			counts(t, s, length, made, swept)
			return
		}
		said[i] = truth(t, s, k, vars)
	}
	want, have := op.said(vars, said), truths(t, s, vars, budget)
	needs := missing(want, vars, have)
	if needs > budget-length {
		refuses(t, op, o, l, api.ErrBudget)
		full(t, s, vars, budget, have, want)
		counts(t, s, budget, made+budget-length, swept)
	} else {
		k := gives(t, op, o, l)
		saysSo(t, op, s, k, vars, said)
		if n, there := have[want]; there && n != k {
			t.Fatalf("%s of %x: %d, not %d", op.name, said, k, n)
		}
		counts(t, s, length+needs, made+needs, swept)
	}
	for x, k := range have {
		if got := truth(t, s, k, vars); got != x {
			t.Fatalf("the node %d says %x behind %s, not %x", k, got, op.name, x)
		}
	}
}

// Op1, R2: thrown calls, in stores with room for few nodes and for some more: what is answered, what is made, and that all other nodes stay as they are.
func TestThrown(t *testing.T) {
	for _, budget := range []int{2, 3, 4, 7, 12, 20, 40} {
		for _, vars := range []int{1, 2, 3, 4} {
			s, o := open(t, vars, budget)
			throw := dice(uint64(100*budget + vars))
			for range 3000 {
				play(t, s, o, vars, budget, throw)
			}
		}
	}
}

// thrown is a thrown node of many variables, made by Mk alone: its nodes ask variables from v on.
func thrown(t *testing.T, s *node.Store, vars, width int, throw func(n int) int) int {
	t.Helper()
	l := []int{0, 1}
	for v := vars - 1; v >= 0; v-- {
		last := l[max(0, len(l)-2*width):]
		var next []int
		for range width {
			next = append(next, mk(t, s, v, last[throw(len(last))], last[throw(len(last))]))
		}
		l = append(l, next...)
	}
	return l[len(l)-1]
}

// must is a node that an operation gave.
func must(k int, e api.Errno) int {
	if e != api.OK {
		panic("an operation answered an error")
	}
	return k
}

// laws wants of three nodes what holds of all nodes, by their numbers.
func laws(t *testing.T, o *oper.Ops, a, b, c int) {
	t.Helper()
	notA, notB := must(o.Not(a)), must(o.Not(b))
	pairs := [][2]int{
		{must(o.And(a, b)), must(o.And(b, a))},
		{must(o.Or(a, b)), must(o.Or(b, a))},
		{must(o.Xor(a, b)), must(o.Xor(b, a))},
		{must(o.Not(notA)), a},
		{must(o.Not(must(o.And(a, b)))), must(o.Or(notA, notB))},
		{must(o.Not(must(o.Or(a, b)))), must(o.And(notA, notB))},
		{must(o.Diff(a, b)), must(o.And(a, notB))},
		{must(o.Xor(a, b)), must(o.Or(must(o.Diff(a, b)), must(o.Diff(b, a))))},
		{must(o.Xor(a, b)), must(o.Ite(a, notB, b))},
		{must(o.Ite(a, b, c)), must(o.Or(must(o.And(a, b)), must(o.And(notA, c))))},
		{must(o.Ite(a, b, c)), must(o.Ite(notA, c, b))},
		{must(o.Ite(a, b, 0)), must(o.And(a, b))},
		{must(o.Ite(a, 1, b)), must(o.Or(a, b))},
		{must(o.And(a, must(o.And(b, c)))), must(o.And(must(o.And(a, b)), c))},
		{must(o.Or(a, must(o.Or(b, c)))), must(o.Or(must(o.Or(a, b)), c))},
		{must(o.Xor(a, must(o.Xor(b, c)))), must(o.Xor(must(o.Xor(a, b)), c))},
		{must(o.And(a, must(o.Or(b, c)))), must(o.Or(must(o.And(a, b)), must(o.And(a, c))))},
		{must(o.And(a, notA)), 0},
		{must(o.Or(a, notA)), 1},
		{must(o.Xor(a, a)), 0},
		{must(o.Diff(a, a)), 0},
	}
	for i, p := range pairs {
		if p[0] != p[1] {
			t.Fatalf("the law %d of %d, %d and %d: %d, not %d", i, a, b, c, p[0], p[1])
		}
	}
}

// Op2: the laws, by numbers, of thrown nodes of many variables; sweeps between do not matter to what has pins.
func TestLaws(t *testing.T) {
	throw := dice(9)
	for _, vars := range []int{1, 2, 5, 8, 12} {
		s, o := open(t, vars, api.MaxBudget)
		for range 60 {
			var l [3]int
			for i := range l {
				l[i] = thrown(t, s, vars, 3, throw)
			}
			pin(t, s, l[:]...)
			laws(t, o, l[0], l[1], l[2])
			laws(t, o, l[1], l[0], l[0])
			both, not := must(o.And(l[0], l[1])), must(o.Not(l[0]))
			pin(t, s, both, not)
			s.Sweep()
			if k := must(o.And(l[1], l[0])); k != both {
				t.Fatalf("And behind a sweep: %d, not %d", k, both)
			}
			if k := must(o.Not(not)); k != l[0] {
				t.Fatalf("Not of Not behind a sweep: %d, not %d", k, l[0])
			}
			if k := must(o.Not(l[0])); k != not {
				t.Fatalf("Not behind a sweep: %d, not %d", k, not)
			}
			laws(t, o, l[2], l[1], l[0])
			unpin(t, s, append(l[:], both, not)...)
			s.Sweep()
		}
	}
}

// Op2: in twin stores, one asked in the other order, the same numbers are given, and the same nodes are left where there is too little room.
func TestOrderInTwinStores(t *testing.T) {
	const vars = 5
	throw := dice(10)
	for i := range 2000 {
		budget := 12 + throw(50)
		s, o := open(t, vars, budget)
		r, p := open(t, vars, budget)
		op := operations()[1+i%3]
		var said [3]uint64
		for i := range 2 {
			said[i] = throwTruth(throw, vars)
		}
		if s.Len()+len(parts(said[0], vars, 0, map[uint64]bool{}))+len(parts(said[1], vars, 0, map[uint64]bool{})) > budget {
			continue
		}
		l, m := operands(t, op, s, vars, said), operands(t, op, r, vars, said)
		if l != m {
			t.Fatalf("twins: %v and %v", l, m)
		}
		k, e := op.ask(o, l)
		n, f := op.ask(p, [3]int{l[1], l[0], 0})
		if k != n || e != f {
			t.Fatalf("%s of %v: %d, error %d, and in the other order %d, error %d", op.name, l, k, e, n, f)
		}
		same(t, s, r, budget)
	}
}

// same wants two stores to have the same nodes.
func same(t *testing.T, s, r *node.Store, budget int) {
	t.Helper()
	counts(t, r, s.Len(), s.Made(), s.Sweeps())
	for k := range budget {
		v, low, high, e := s.Node(k)
		w, l, h, f := r.Node(k)
		if v != w || low != l || high != h || e != f {
			t.Fatalf("Node(%d): %d %d %d, error %d, and %d %d %d, error %d", k, v, low, high, e, w, l, h, f)
		}
	}
}

// R4: operations have nothing together, and answer the same after the same calls.
func TestOperationsAreTheirOwn(t *testing.T) {
	const vars, budget = 4, 30
	s, o := open(t, vars, budget)
	r, p := open(t, vars, budget)
	x, q := open(t, vars, budget)
	throw, again := dice(11), dice(11)
	for range 20000 {
		play(t, s, o, vars, budget, throw)
		play(t, r, p, vars, budget, again)
		counts(t, r, s.Len(), s.Made(), s.Sweeps())
	}
	same(t, s, r, budget)
	counts(t, x, 2, 0, 0)
	a := mk(t, x, 1, 0, 1)
	if k, e := q.Not(a); k != 3 || e != api.OK {
		t.Fatalf("Not(%d): %d, error %d, not 3", a, k, e)
	}
}

// remainder is the node that says whether the numbers of the variables that are true, each times a factor, come to rest modulo m.
func remainder(t *testing.T, s *node.Store, vars, factor, m, rest int) int {
	t.Helper()
	now := make([]int, m)
	now[rest] = 1
	for v := vars - 1; v >= 0; v-- {
		ahead := make([]int, m)
		for i := range m {
			ahead[i] = mk(t, s, v, now[i], now[(i+factor*(v+1))%m])
		}
		now = ahead
	}
	return now[0]
}

// remains is what such a node must say.
func remains(values []bool, factor, m, rest int) bool {
	n := 0
	for v, x := range values {
		if x {
			n += factor * (v + 1)
		}
	}
	return n%m == rest
}

// throwValues is thrown values of variables.
func throwValues(throw func(n int) int, vars int) []bool {
	values := make([]bool, vars)
	for v := range values {
		values[v] = throw(2) == 1
	}
	return values
}

// Op1: all variables that there may be, and nodes with far too many ways through them to be gone one by one.
func TestManyVariables(t *testing.T) {
	s, o := open(t, api.MaxVars, api.MaxBudget)
	throw := dice(12)
	a, b, c := remainder(t, s, api.MaxVars, 1, 7, 2), remainder(t, s, api.MaxVars, 3, 11, 5), remainder(t, s, api.MaxVars, 5, 13, 1)
	for _, op := range operations() {
		k := gives(t, op, o, [3]int{a, b, c})
		for i := range 1000 {
			values := throwValues(throw, api.MaxVars)
			if i%2 == 0 {
				// The first one rarely says true: this turns some of its variables till it does.
				for v := 0; !remains(values, 1, 7, 2); v++ {
					values[v] = !values[v]
				}
			}
			want := op.says(remains(values, 1, 7, 2), remains(values, 3, 11, 5), remains(values, 5, 13, 1))
			if got, e := s.Eval(k, values); got != want || e != api.OK {
				t.Fatalf("%s: says %v, error %d, not %v", op.name, got, e, want)
			}
		}
	}
}

// Op1: whether the variables are true in odd number, by as many Xors as there are variables; and all, and one.
func TestRowsOfOperations(t *testing.T) {
	s, o := open(t, api.MaxVars, 3000)
	odd, and, or := 0, 1, 0
	for v := range api.MaxVars {
		x := mk(t, s, v, 0, 1)
		for _, k := range []int{odd, and, or} {
			pin(t, s, k)
		}
		nextOdd, nextAnd, nextOr := must(o.Xor(odd, x)), must(o.And(x, and)), must(o.Or(or, x))
		unpin(t, s, odd, and, or)
		pin(t, s, nextOdd, nextAnd, nextOr)
		s.Sweep()
		unpin(t, s, nextOdd, nextAnd, nextOr)
		odd, and, or = nextOdd, nextAnd, nextOr
	}
	for i, want := range []int{2*api.MaxVars + 1, api.MaxVars + 2, api.MaxVars + 2} {
		k := []int{odd, and, or}[i]
		if n, e := s.Size(k); n != want || e != api.OK {
			t.Fatalf("Size(%d): %d, error %d, not %d", k, n, e, want)
		}
	}
	throw := dice(13)
	for i := range 200 {
		values := throwValues(throw, api.MaxVars)
		// The first four of these: all true, none, and all but one, or one alone.
		for v := range values {
			if i < 4 {
				values[v] = (i%2 == 0) != (i > 1 && v == 100)
			}
		}
		trues := 0
		for _, x := range values {
			if x {
				trues++
			}
		}
		for i, want := range []bool{trues%2 == 1, trues == api.MaxVars, trues > 0} {
			if got, e := s.Eval([]int{odd, and, or}[i], values); got != want || e != api.OK {
				t.Fatalf("Eval of %d that are true: %v, error %d, not %v", trues, got, e, want)
			}
		}
	}
}

// Op1: the greatest budget: where it is full ErrBudget, with all numbers nodes'; then, behind a sweep, answers that there is room for.
func TestGreatestBudget(t *testing.T) {
	s, o := open(t, api.MaxVars, api.MaxBudget)
	a, b := remainder(t, s, api.MaxVars, 1, 101, 3), remainder(t, s, api.MaxVars, 7, 103, 5)
	pin(t, s, a, b)
	s.Sweep()
	base := s.Len()
	for _, op := range operations()[1:4] {
		refuses(t, op, o, [3]int{a, b}, api.ErrBudget)
		counts(t, s, api.MaxBudget, s.Made(), s.Sweeps())
		if !there(s, api.MaxBudget-1) || there(s, api.MaxBudget) {
			t.Fatal("the greatest number is no node's, or one beyond it is")
		}
	}
	sweeps(t, s, api.MaxBudget-base)
	not, e := o.Not(a)
	if e != api.OK {
		t.Fatalf("Not(%d): error %d", a, e)
	}
	if k, e := o.Not(not); k != a || e != api.OK {
		t.Fatalf("Not(%d): %d, error %d, not %d", not, k, e, a)
	}
	if k, e := o.Xor(not, a); k != 1 || e != api.OK {
		t.Fatalf("Xor(%d, %d): %d, error %d, not 1", not, a, k, e)
	}
	if k, e := o.Diff(b, b); k != 0 || e != api.OK {
		t.Fatalf("Diff(%d, %d): %d, error %d, not 0", b, b, k, e)
	}
}
