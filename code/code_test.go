package code_test

import (
	"math"
	mathbits "math/bits"
	"slices"
	"strconv"
	"strings"
	"testing"

	"osier/api"
	"osier/code"
	"osier/count"
	"osier/node"
	"osier/oper"
	"osier/quan"
)

// The calls that give a node.
const (
	tuple = iota
	within
	equal
	sum
	calls // how many they are
)

// question is what is asked: of a list of domains and their values, of one domain and two numbers (within), of two domains (equal), of two domains and a number (sum).
type question struct {
	call         int
	doms, values []int
}

// ask asks it.
func (x question) ask(c *code.Code) (int, api.Errno) {
	switch x.call {
	case tuple:
		return c.Tuple(x.doms, x.values)
	case within:
		return c.Range(x.doms[0], x.values[0], x.values[1])
	case equal:
		return c.Equal(x.doms[0], x.doms[1])
	}
	return c.Add(x.doms[0], x.doms[1], x.values[0])
}

// may tells whether it may be asked of these domains.
func (x question) may(doms []api.Dom) bool {
	for _, d := range x.doms {
		if d < 0 || d >= len(doms) {
			return false
		}
	}
	in := func(d, value int) bool { return value >= 0 && value < doms[d].Size }
	switch x.call {
	case tuple:
		for i, value := range x.values {
			if i >= len(x.doms) || !in(x.doms[i], value) {
				return false
			}
		}
		return len(x.values) == len(x.doms) && !twice(x.doms)
	case within:
		return in(x.doms[0], x.values[0]) && in(x.doms[0], x.values[1])
	case equal:
		return doms[x.doms[0]].Size == doms[x.doms[1]].Size
	}
	return x.doms[0] != x.doms[1] && x.values[0] >= -1<<30 && x.values[0] <= 1<<30
}

// says is whether the node that answers it must say true, where all domains have these values.
func (x question) says(doms []api.Dom, l []int) bool {
	in := func(d int) bool { return l[d] < doms[d].Size }
	switch x.call {
	case tuple:
		for i, d := range x.doms {
			if l[d] != x.values[i] {
				return false
			}
		}
		return true
	case within:
		return l[x.doms[0]] >= x.values[0] && l[x.doms[0]] <= x.values[1]
	case equal:
		return l[x.doms[0]] == l[x.doms[1]] && in(x.doms[0])
	}
	a, b := x.doms[0], x.doms[1]
	return l[b] == l[a]+x.values[0] && in(a) && in(b)
}

// twice tells whether a number is there twice.
func twice(l []int) bool {
	l = slices.Sorted(slices.Values(l))
	n := len(l)
	return len(slices.Compact(l)) < n
}

// laid is domains by an order, and where their bits must stand.
type laid struct {
	doms  []api.Dom
	order string
	vars  [][]int
}

// widthOf is how many bits the numbers below a size need: those of the greatest of them.
func widthOf(size int) int {
	return mathbits.Len(uint(size - 1))
}

// bitsOf is how many bits domains have together.
func bitsOf(doms []api.Dom) int {
	n := 0
	for _, d := range doms {
		n += widthOf(d.Size)
	}
	return n
}

// sized is domains of these sizes, with the names A, B, ... and, behind Z, A1, B1, ...
func sized(sizes ...int) []api.Dom {
	var doms []api.Dom
	for i, size := range sizes {
		name := string(rune('A' + i%26))
		if i >= 26 {
			name += strconv.Itoa(i / 26)
		}
		doms = append(doms, api.Dom{Name: name, Size: size})
	}
	return doms
}

// lays is these domains by these groups of their places: all bits are sorted by where they stand, and then numbered.
func lays(doms []api.Dom, groups [][]int) laid {
	type bit struct{ dom, at, group, higher, turn int }
	var l []bit
	var names []string
	vars := make([][]int, len(doms))
	for g, group := range groups {
		var n []string
		for turn, i := range group {
			w := widthOf(doms[i].Size)
			vars[i] = make([]int, w)
			n = append(n, doms[i].Name)
			for at := range w {
				l = append(l, bit{i, at, g, w - 1 - at, turn})
			}
		}
		names = append(names, strings.Join(n, "*"))
	}
	slices.SortFunc(l, func(a, b bit) int {
		return slices.Compare([]int{a.group, a.higher, a.turn}, []int{b.group, b.higher, b.turn})
	})
	for v, b := range l {
		vars[b.dom][b.at] = v
	}
	return laid{doms, strings.Join(names, "_"), vars}
}

// woven is domains whose bits all take turns, and stacked those of which each stands behind the one ahead.
func woven(doms []api.Dom) laid {
	if len(doms) == 0 {
		return lays(doms, nil)
	}
	return lays(doms, [][]int{upTo(len(doms))})
}

func stacked(doms []api.Dom) laid {
	var groups [][]int
	for i := range doms {
		groups = append(groups, []int{i})
	}
	return lays(doms, groups)
}

// upTo is the numbers below n.
func upTo(n int) []int {
	var l []int
	for i := range n {
		l = append(l, i)
	}
	return l
}

// everyOrder goes through all orders of domains: each way in which they stand, and each way to part them.
func everyOrder(doms []api.Dom, do func(l laid)) {
	n := len(doms)
	var from func(l []int)
	from = func(l []int) {
		if len(l) < n {
			for i := range n {
				if !slices.Contains(l, i) {
					from(append(slices.Clone(l), i))
				}
			}
			return
		}
		for cuts := range 1 << max(n-1, 0) {
			var groups [][]int
			for at, i := range l {
				if at > 0 && cuts>>(at-1)&1 == 0 {
					groups[len(groups)-1] = append(groups[len(groups)-1], i)
				} else {
					groups = append(groups, []int{i})
				}
			}
			do(lays(doms, groups))
		}
	}
	from(nil)
}

// lists is all lists of domains below so many, of up to that length, none twice in one.
func lists(n, length int) [][]int {
	all := [][]int{nil}
	for at := 0; at < len(all); at++ {
		for d := range n {
			if len(all[at]) < length && !slices.Contains(all[at], d) {
				all = append(all, append(slices.Clone(all[at]), d))
			}
		}
	}
	return all
}

// valuesOf is the numbers of the domains' bits, where the variables have these values.
func (l laid) valuesOf(values []bool) []int {
	out := make([]int, len(l.doms))
	for d, vars := range l.vars {
		for at, v := range vars {
			if values[v] {
				out[d] |= 1 << at
			}
		}
	}
	return out
}

// bools is values of so many variables, of which domains have these ones; all others are false.
func (l laid) bools(vars int, doms, numbers []int) []bool {
	values := make([]bool, vars)
	for i, d := range doms {
		for at, v := range l.vars[d] {
			values[v] = numbers[i]>>at&1 == 1
		}
	}
	return values
}

// all goes through all values of so many variables, the first one the slowest.
func all(vars int, do func(values []bool)) {
	values := make([]bool, vars)
	for place := range 1 << vars {
		for v := range values {
			values[v] = place>>(vars-1-v)&1 == 1
		}
		do(values)
	}
}

// digit is a truth as it is told.
func digit(x bool) byte {
	if x {
		return '1'
	}
	return '0'
}

// truth is what a node says of all values of so many variables.
func truth(t *testing.T, s *node.Store, k, vars int) string {
	t.Helper()
	var said []byte
	all(vars, func(values []bool) {
		x, e := s.Eval(k, values)
		if e != api.OK {
			t.Fatalf("Eval(%d): error %d", k, e)
		}
		said = append(said, digit(x))
	})
	return string(said)
}

// said is what the node that answers a question must say of all values of so many variables.
func (x question) said(l laid, vars int) string {
	var said []byte
	all(vars, func(values []bool) {
		said = append(said, digit(x.says(l.doms, l.valuesOf(values))))
	})
	return string(said)
}

// parts adds to a set the nodes, but for 0 and 1, that one which says this is of: each is told by what it says of the variables from the one on that it asks.
func parts(said string, set map[string]int) map[string]int {
	if len(said) == 1 {
		return set
	}
	low, high := said[:len(said)/2], said[len(said)/2:]
	if low != high {
		set[said] = 1
		parts(high, set)
	}
	return parts(low, set)
}

// stands is the numbers of a store's nodes below a bound, but for 0 and 1, by what they say of the variables from the one on that they ask.
func stands(t *testing.T, s *node.Store, bound int) map[string]int {
	t.Helper()
	l := map[string]int{}
	for k := 2; k < bound; k++ {
		if v, _, _, e := s.Node(k); e == api.OK {
			l[truth(t, s, k, s.Vars())[:1<<(s.Vars()-v)]] = k
		}
	}
	return l
}

// missing is how many nodes there are not yet of those that one which says this is of.
func missing(said string, have map[string]int) int {
	n := 0
	for part := range parts(said, map[string]int{}) {
		if have[part] == 0 {
			n++
		}
	}
	return n
}

// store is a store that must be given.
func store(t *testing.T, vars, budget int) *node.Store {
	t.Helper()
	s, e := node.New(vars, budget)
	if e != api.OK || s == nil {
		t.Fatalf("New(%d, %d): error %d", vars, budget, e)
	}
	return s
}

// quantify is a store's operations and what is asked of its variables.
func quantify(t *testing.T, s *node.Store) *quan.Quan {
	t.Helper()
	o, e := oper.New(s)
	if e != api.OK {
		t.Fatalf("New of a store: error %d", e)
	}
	q, e := quan.New(o)
	if e != api.OK || q == nil {
		t.Fatalf("New of operations: error %d", e)
	}
	return q
}

// encode is what New must give of domains that may be, by an order that is theirs.
func encode(t *testing.T, q *quan.Quan, l laid) *code.Code {
	t.Helper()
	c, e := code.New(q, l.doms, l.order)
	if e != api.OK || c == nil {
		t.Fatalf("New(%v, %q): error %d", l.doms, l.order, e)
	}
	return c
}

// open is a store with so many variables more than domains need, and the domains in it.
func open(t *testing.T, l laid, more, budget int) (*node.Store, *code.Code) {
	t.Helper()
	s := store(t, bitsOf(l.doms)+more, budget)
	return s, encode(t, quantify(t, s), l)
}

// mk wants Mk to give a node.
func mk(t *testing.T, s *node.Store, v, low, high int) int {
	k, e := s.Mk(v, low, high)
	if e != api.OK {
		t.Helper()
		t.Fatalf("Mk(%d, %d, %d): error %d", v, low, high, e)
	}
	return k
}

// build is the node that says this of all of a store's variables, made by Mk alone.
func build(t *testing.T, s *node.Store, said string) int {
	t.Helper()
	var from func(v int, said string) int
	from = func(v int, said string) int {
		if len(said) == 1 {
			return int(said[0] - '0')
		}
		return mk(t, s, v, from(v+1, said[:len(said)/2]), from(v+1, said[len(said)/2:]))
	}
	return from(0, said)
}

// pin pins nodes that must be there.
func pin(t *testing.T, s *node.Store, l ...int) {
	for _, k := range l {
		if e := s.Pin(k); e != api.OK {
			t.Helper()
			t.Fatalf("Pin(%d): error %d", k, e)
		}
	}
}

// counts wants a store to have counted so.
func counts(t *testing.T, s *node.Store, length, made, sweeps int) {
	if s.Len() != length || s.Made() != made || s.Sweeps() != sweeps {
		t.Helper()
		t.Fatalf("Len %d, Made %d, Sweeps %d, not %d, %d, %d", s.Len(), s.Made(), s.Sweeps(), length, made, sweeps)
	}
}

// there tells whether a number is a node's.
func there(s *node.Store, k int) bool {
	_, _, _, e := s.Node(k)
	return e == api.OK
}

// gives wants a question to be answered by a node.
func gives(t *testing.T, c *code.Code, x question) int {
	k, e := x.ask(c)
	if e != api.OK {
		t.Helper()
		t.Fatalf("%v of %v: error %d", x, c.Doms(), e)
	}
	return k
}

// givesThis wants a question to be answered by the node of this number.
func givesThis(t *testing.T, c *code.Code, x question, want int) {
	if k, e := x.ask(c); k != want || e != api.OK {
		t.Helper()
		t.Fatalf("%v of %v: %d, error %d, not %d", x, c.Doms(), k, e, want)
	}
}

// refuses wants a question to be answered by an error, and nothing beside it.
func refuses(t *testing.T, c *code.Code, x question, want api.Errno) {
	if k, e := x.ask(c); k != 0 || e != want {
		t.Helper()
		t.Fatalf("%v of %v: %d, error %d, not 0, error %d", x, c.Doms(), k, e, want)
	}
}

// holds wants a question to be answered by the node that says what it must of all values of the store's variables, and just the nodes to be made that it is of and that were missing; or to be refused, with nothing made.
func holds(t *testing.T, s *node.Store, c *code.Code, l laid, x question) int {
	t.Helper()
	length, made, sweeps := s.Len(), s.Made(), s.Sweeps()
	if !x.may(l.doms) {
		refuses(t, c, x, api.ErrArg)
		counts(t, s, length, made, sweeps)
		return 0
	}
	want := x.said(l, s.Vars())
	k := gives(t, c, x)
	if got := truth(t, s, k, s.Vars()); got != want {
		t.Fatalf("%v of %v by %q: the node %d says %s, not %s", x, l.doms, l.order, k, got, want)
	}
	if length == 2 {
		needs := len(parts(want, map[string]int{}))
		counts(t, s, 2+needs, made+needs, sweeps)
	}
	givesThis(t, c, x, k)
	return k
}

// rows tells whether two lists of rows are the same.
func rows(a, b [][]int) bool {
	return slices.EqualFunc(a, b, slices.Equal[[]int])
}

// tells wants Tuples to answer this.
func tells(t *testing.T, c *code.Code, k int, doms []int, most int, want [][]int) {
	if l, e := c.Tuples(k, doms, most); e != api.OK || !rows(l, want) {
		t.Helper()
		t.Fatalf("Tuples(%d, %v, %d) of %v: %v, error %d, not %v", k, doms, most, c.Doms(), l, e, want)
	}
}

// tellsNot wants Tuples to answer an error, and nothing beside it.
func tellsNot(t *testing.T, c *code.Code, k int, doms []int, most int, want api.Errno) {
	if l, e := c.Tuples(k, doms, most); e != want || len(l) != 0 {
		t.Helper()
		t.Fatalf("Tuples(%d, %v, %d) of %v: %v, error %d, not error %d", k, doms, most, c.Doms(), l, e, want)
	}
}

// tuplesOf is the values of domains for which something is said true, rising.
func (l laid) tuplesOf(said string, vars int, doms []int) [][]int {
	var out [][]int
	place := 0
	all(vars, func(values []bool) {
		if said[place] == '1' {
			var row []int
			for _, d := range doms {
				row = append(row, l.valuesOf(values)[d])
			}
			out = append(out, row)
		}
		place++
	})
	slices.SortFunc(out, slices.Compare[[]int])
	return slices.CompactFunc(out, slices.Equal[[]int])
}

// theirs tells whether what is said hangs on variables of domains alone.
func (l laid) theirs(said string, vars int, doms []int) bool {
	for v := range vars {
		if slices.ContainsFunc(doms, func(d int) bool { return slices.Contains(l.vars[d], v) }) {
			continue
		}
		for place := range said {
			if said[place] != said[place^1<<(vars-1-v)] {
				return false
			}
		}
	}
	return true
}

// may tells whether these are domains, none of them twice.
func (l laid) may(doms []int) bool {
	return !twice(doms) && !slices.ContainsFunc(doms, func(d int) bool { return d < 0 || d >= len(l.doms) })
}

// asked holds Tuples of a number, a node's or not, against what it must answer.
func asked(t *testing.T, s *node.Store, c *code.Code, l laid, k int, doms []int, most int) {
	t.Helper()
	if !l.may(doms) || most < 0 || most > api.MaxTuples {
		tellsNot(t, c, k, doms, most, api.ErrArg)
		return
	}
	if !there(s, k) {
		tellsNot(t, c, k, doms, most, api.ErrNone)
		return
	}
	said := truth(t, s, k, s.Vars())
	if !l.theirs(said, s.Vars(), doms) {
		tellsNot(t, c, k, doms, most, api.ErrArg)
		return
	}
	want := l.tuplesOf(said, s.Vars(), doms)
	if len(want) > most {
		tellsNot(t, c, k, doms, most, api.ErrFull)
		return
	}
	tells(t, c, k, doms, most, want)
}

// must is a node that was answered.
func must(k int, e api.Errno) int {
	if e != api.OK {
		panic("an error was answered")
	}
	return k
}

// copied is a copy of what a pointer points to.
func copied[T any](x *T) *T {
	y := *x
	return &y
}

// wrong is numbers that are no node's in a store whose numbers end below a thousand: some end, cut to fewer bits, in those of nodes.
func wrong() []int {
	return []int{math.MinInt, math.MinInt + 1, -1 << 32, -3, -2, -1, 1000, api.MaxBudget, 1 << 31, 1 << 32, 1<<32 + 1, 1<<32 + 2, math.MaxInt - 1, math.MaxInt}
}

// noDomains is numbers that are no domains of so many.
func noDomains(n int) []int {
	return []int{math.MinInt, math.MinInt + 1, -1 << 32, -33, -32, -2, -1, n, n + 1, 32, 33, 1 << 31, 1 << 32, 1<<32 + 1, math.MaxInt - 1, math.MaxInt}
}

// noValues is numbers that a domain of that size may not have.
func noValues(size int) []int {
	return []int{math.MinInt, math.MinInt + 1, -1 << 32, -size, -2, -1, size, size + 1, 1 << 30, 1 << 31, 1 << 32, 1<<32 + 1, math.MaxInt - 1, math.MaxInt}
}

// noBounds is numbers that may not be asked for.
func noBounds() []int {
	return []int{math.MinInt, -1 << 32, -api.MaxTuples, -2, -1, api.MaxTuples + 1, 1 << 15, 1 << 31, 1 << 32, 1<<32 + 1, math.MaxInt}
}

// dice is a row of numbers that look thrown, the same ones each time.
func dice(seed uint64) func(n int) int {
	return func(n int) int {
		seed = seed*6364136223846793005 + 1442695040888963407
		return int(seed>>33) % n
	}
}

// shuffled is the numbers below n in a thrown order.
func shuffled(throw func(n int) int, n int) []int {
	var l []int
	for i := range n {
		l = slices.Insert(l, throw(i+1), i)
	}
	return l
}

// throwOrder is domains by a thrown order.
func throwOrder(throw func(n int) int, doms []api.Dom) laid {
	var groups [][]int
	sticks := throw(4)
	for at, i := range shuffled(throw, len(doms)) {
		if at > 0 && throw(4) < sticks {
			groups[len(groups)-1] = append(groups[len(groups)-1], i)
		} else {
			groups = append(groups, []int{i})
		}
	}
	return lays(doms, groups)
}

// throwLaid is up to four thrown domains by a thrown order, with up to so many bits. Many have the same size.
func throwLaid(throw func(n int) int, bits int) laid {
	sizes := []int{1 + throw(1<<throw(bits))}
	for range throw(8) {
		size := 1 + throw(1<<throw(bits))
		if throw(2) == 0 {
			size = sizes[throw(len(sizes))]
		}
		more := append(slices.Clone(sizes), size)
		if len(more) <= 4 && bitsOf(sized(more...)) <= bits && (size > 1 || throw(4) == 0) {
			sizes = more
		}
	}
	return throwOrder(throw, sized(sizes...))
}

// throwList is some domains of so many, none twice, in a thrown order.
func throwList(throw func(n int) int, n int) []int {
	return shuffled(throw, n)[:throw(n+1)]
}

// throwQuestion is a thrown question of these domains; if it is spoiled, one thing of it, if there is one, may not be.
func throwQuestion(throw func(n int) int, doms []api.Dom, spoiled bool) question {
	n := len(doms)
	value := func(d int) int { return throw(doms[d].Size) }
	x := question{call: throw(calls), doms: []int{throw(n), throw(n)}}
	unlike := func() bool { return x.doms[0] == x.doms[1] || doms[x.doms[0]].Size != doms[x.doms[1]].Size }
	for tries := 0; tries < 20 && unlike() && throw(4) > 0; tries++ {
		x.doms = []int{throw(n), throw(n)}
	}
	switch x.call {
	case tuple:
		x.doms = throwList(throw, n)
		for _, d := range x.doms {
			x.values = append(x.values, value(d))
		}
	case within:
		x.values = []int{value(x.doms[0]), value(x.doms[0])}
		x.doms = x.doms[:1]
	case sum:
		most := doms[x.doms[0]].Size + doms[x.doms[1]].Size
		x.values = []int{throw(2*most+1) - most}
	}
	if spoiled {
		x.spoil(throw, doms)
	}
	return x
}

// spoil puts a number in the place of one of its own that may not be there, or lets a list be longer, or shorter.
func (x *question) spoil(throw func(n int) int, doms []api.Dom) {
	pick := func(l []int) int { return l[throw(len(l))] }
	at := throw(len(x.doms) + 1)
	switch {
	case at < len(x.doms) && throw(2) == 0:
		x.doms[at] = pick(noDomains(len(doms)))
	case at < len(x.doms) && at < len(x.values):
		x.values[at] = pick(noValues(doms[x.doms[at]].Size))
	case x.call == tuple && throw(2) == 0:
		x.values = append(x.values, 0)
	case x.call == tuple && len(x.values) > 0:
		x.values = x.values[1:]
	}
}

// lots is lists of sizes that are gone through whole: no power of two and one, of one value, as many and not, and with as many bits.
func lots() [][]int {
	return [][]int{{}, {1}, {2}, {3}, {5}, {8}, {1, 1}, {1, 2}, {2, 1}, {3, 3}, {3, 4}, {4, 4}, {5, 5}, {7, 2}, {6, 6}, {2, 2, 2}, {3, 1, 4}, {3, 3, 2}, {1, 5, 5}, {5, 2, 5}, {2, 3, 2, 1}}
}

// Co1 to Co3: the example: A and B of 4, Tuples of Equal.
func TestExample(t *testing.T) {
	everyOrder(sized(4, 4), func(l laid) {
		_, c := open(t, l, 0, 100)
		tells(t, c, gives(t, c, question{equal, []int{0, 1}, nil}), []int{0, 1}, 4, [][]int{{0, 0}, {1, 1}, {2, 2}, {3, 3}})
	})
}

// Co1 to Co3: all calls of some domains, by hand.
func TestByHand(t *testing.T) {
	s := store(t, 6, 100)
	q := quantify(t, s)
	c, e := code.New(q, []api.Dom{{Name: "x", Size: 3}, {Name: "y1", Size: 5}, {Name: "Z", Size: 1}}, "Z_y1*x")
	if e != api.OK || c.Quan() != q || !slices.Equal(c.Doms(), []api.Dom{{Name: "x", Size: 3}, {Name: "y1", Size: 5}, {Name: "Z", Size: 1}}) {
		t.Fatalf("New: error %d, Doms %v", e, c.Doms())
	}
	if l, e := c.Vars([]int{1, 2, 0}); e != api.OK || !slices.Equal(l, []int{4, 2, 0, 3, 1}) {
		t.Fatalf("Vars: %v, error %d", l, e)
	}
	counts(t, s, 2, 0, 0)
	k, e := c.Tuple([]int{0, 2}, []int{2, 0})
	if want := mk(t, s, 1, 0, mk(t, s, 3, 1, 0)); e != api.OK || k != want {
		t.Fatalf("Tuple: %d, error %d, not %d", k, e, want)
	}
	k, e = c.Range(1, 4, 4)
	if want := mk(t, s, 0, 0, mk(t, s, 2, mk(t, s, 4, 1, 0), 0)); e != api.OK || k != want {
		t.Fatalf("Range: %d, error %d, not %d", k, e, want)
	}
	tells(t, c, must(c.Range(1, 1, 3)), []int{1}, 3, [][]int{{1}, {2}, {3}})
	tells(t, c, must(c.Equal(0, 0)), []int{0}, 9, [][]int{{0}, {1}, {2}})
	tells(t, c, must(c.Add(0, 1, 2)), []int{1, 2, 0}, 9, [][]int{{2, 0, 0}, {3, 0, 1}, {4, 0, 2}})
	tells(t, c, must(c.Add(1, 0, -3)), []int{0, 1}, 9, [][]int{{0, 3}, {1, 4}})
	tells(t, c, must(c.Add(1, 2, -2)), []int{1}, 9, [][]int{{2}})
	if k, e := c.Equal(0, 1); k != 0 || e != api.ErrArg {
		t.Fatalf("Equal of domains of other sizes: %d, error %d, not ErrArg", k, e)
	}
	tellsNot(t, c, must(c.Add(0, 1, 2)), []int{0}, 9, api.ErrArg)
	tellsNot(t, c, must(c.Add(0, 1, 2)), []int{0, 1}, 2, api.ErrFull)
	tellsNot(t, c, 99, []int{0, 1}, 2, api.ErrNone)
}

// Co1: New of domains of all sizes, by all orders, in stores with as many variables as they need, and with more: what was given is answered, no node is made, and Vars are those of the domains, list by list.
func TestNew(t *testing.T) {
	for _, sizes := range lots() {
		everyOrder(sized(sizes...), func(l laid) {
			for _, more := range []int{0, 1, 7} {
				s := store(t, bitsOf(l.doms)+more, 2)
				q := quantify(t, s)
				c := encode(t, q, l)
				if c.Quan() != q || !slices.Equal(c.Doms(), l.doms) {
					t.Fatalf("Doms of those of New(%v, %q): %v, or Quan: others", l.doms, l.order, c.Doms())
				}
				for _, doms := range lists(len(sizes), 4) {
					var want []int
					for _, d := range doms {
						want = append(want, l.vars[d]...)
					}
					if vars, e := c.Vars(doms); e != api.OK || !slices.Equal(vars, want) {
						t.Fatalf("Vars(%v) of those of New(%v, %q): %v, error %d, not %v", doms, l.doms, l.order, vars, e, want)
					}
				}
				counts(t, s, 2, 0, 0)
			}
		})
	}
}

// Co1: New in a store that has nodes, and was swept: it stays as it is; and two of the same operations.
func TestNewOfUsedStores(t *testing.T) {
	l := woven(sized(3, 3))
	s, c := open(t, l, 0, 10)
	k := mk(t, s, 3, 0, 1)
	mk(t, s, 2, 0, 1)
	pin(t, s, k)
	s.Sweep()
	d := encode(t, c.Quan(), stacked(l.doms))
	counts(t, s, 3, 2, 1)
	if c == d || d.Quan() != c.Quan() {
		t.Fatal("two of the same operations: theirs are others, or they are the same")
	}
	x := question{within, []int{0}, []int{0, 0}}
	k, n := gives(t, c, x), gives(t, d, x)
	if truth(t, s, k, 4) != x.said(l, 4) || truth(t, s, n, 4) != x.said(stacked(l.doms), 4) || k == n {
		t.Fatalf("two of the same operations, by other orders: %d and %d", k, n)
	}
}

// newRefuses wants New to answer an error, and nothing beside it.
func newRefuses(t *testing.T, q *quan.Quan, doms []api.Dom, order string, want api.Errno) {
	if c, e := code.New(q, doms, order); c != nil || e != want {
		t.Helper()
		t.Fatalf("New(%v, %q): %v, error %d, not error %d", doms, order, c != nil, e, want)
	}
}

// Co1, R1: operations that are none, with orders that are some and none.
func TestNewOfNoOperations(t *testing.T) {
	s := store(t, 10, 10)
	q := quantify(t, s)
	for _, none := range []*quan.Quan{nil, {}, new(quan.Quan), copied(q)} {
		for _, order := range []string{"A_B", "A*B", "", "A", "?"} {
			newRefuses(t, none, sized(3, 3), order, api.ErrArg)
		}
		newRefuses(t, none, nil, "", api.ErrArg)
		newRefuses(t, none, nil, "A", api.ErrArg)
	}
	counts(t, s, 2, 0, 0)
}

// Co1: domains that may not be: names, sizes, how many they are, and their widths together; these come ahead of orders.
func TestNewOfNoDomains(t *testing.T) {
	s := store(t, api.MaxVars, 10)
	q := quantify(t, s)
	for _, doms := range [][]api.Dom{
		{{Name: "", Size: 2}},
		{{Name: "A_", Size: 2}},
		{{Name: "A*", Size: 2}},
		{{Name: "\u00e4", Size: 2}},
		{{Name: strings.Repeat("a", 17), Size: 2}},
		{{Name: "A", Size: 2}, {Name: "A", Size: 2}},
		{{Name: "A", Size: 0}},
		{{Name: "A", Size: -1}},
		{{Name: "A", Size: api.MaxSize + 1}},
		{{Name: "A", Size: 2}, {Name: "B", Size: 0}},
		sized(slices.Repeat([]int{1}, 33)...),
		sized(slices.Repeat([]int{2}, 33)...),
		sized(append(slices.Repeat([]int{256}, 31), 512)...),
		sized(slices.Repeat([]int{api.MaxSize}, 9)...),
	} {
		l := stacked(doms)
		for _, order := range []string{l.order, l.order + "_", "", "A", "_"} {
			newRefuses(t, q, doms, order, api.ErrArg)
		}
	}
	counts(t, s, 2, 0, 0)
	encode(t, q, stacked(sized(slices.Repeat([]int{256}, 32)...)))
	encode(t, q, woven(sized(slices.Repeat([]int{1}, 32)...)))
	encode(t, q, woven(sized(slices.Repeat([]int{api.MaxSize}, 8)...)))
	encode(t, q, stacked([]api.Dom{{Name: strings.Repeat("a", 16), Size: 2}}))
}

// Co1: stores with fewer variables than the domains need, by one and by more, come ahead of orders; with as many, these are looked at.
func TestNewOfFewVariables(t *testing.T) {
	for _, sizes := range [][]int{{2}, {3, 3}, {5, 1, 2}, {api.MaxSize}, {api.MaxSize, 1 << 20}, slices.Repeat([]int{256}, 32)} {
		l := stacked(sized(sizes...))
		n := bitsOf(l.doms)
		for _, vars := range []int{0, n / 2, n - 1} {
			q := quantify(t, store(t, vars, 2))
			newRefuses(t, q, l.doms, l.order, api.ErrArg)
			newRefuses(t, q, l.doms, "", api.ErrArg)
			newRefuses(t, q, l.doms, l.order+"*", api.ErrArg)
		}
		for _, vars := range []int{n, min(n+1, api.MaxVars), api.MaxVars} {
			q := quantify(t, store(t, vars, 2))
			encode(t, q, l)
			newRefuses(t, q, l.doms, "", api.ErrOrder)
			newRefuses(t, q, l.doms, l.order+"*", api.ErrOrder)
		}
	}
}

// Co1: texts that are no order of these domains.
func TestNewOfNoOrder(t *testing.T) {
	s := store(t, 9, 10)
	q := quantify(t, s)
	for _, order := range []string{"", "A", "A_B", "A_B_", "A_B_C_", "_A_B_C", "A__B_C", "A_B_C*", "*A_B_C", "A**B_C", "A_B_C_A", "A*A_B_C", "A_B_D", "A_B_C_D", "a_B_C", "A B C", "A,B_C", "A_B_C\x00", strings.Repeat("A_B_C_", 1000)} {
		newRefuses(t, q, sized(5, 5, 6), order, api.ErrOrder)
	}
	newRefuses(t, q, nil, "A", api.ErrOrder)
	newRefuses(t, q, nil, "_", api.ErrOrder)
	counts(t, s, 2, 0, 0)
}

// Co1 to Co3: no domain at all: Tuple of nothing says true of everything, and Tuples of it tells it once.
func TestNoDomainAtAll(t *testing.T) {
	for _, more := range []int{0, 3} {
		s, c := open(t, laid{}, more, 10)
		if l := c.Doms(); len(l) != 0 {
			t.Fatalf("Doms: %v", l)
		}
		if l, e := c.Vars(nil); len(l) != 0 || e != api.OK {
			t.Fatalf("Vars(nil): %v, error %d", l, e)
		}
		if l, e := c.Vars([]int{}); len(l) != 0 || e != api.OK {
			t.Fatalf("Vars of an empty list: %v, error %d", l, e)
		}
		givesThis(t, c, question{tuple, nil, nil}, 1)
		givesThis(t, c, question{tuple, []int{}, []int{}}, 1)
		refuses(t, c, question{tuple, nil, []int{0}}, api.ErrArg)
		for _, d := range noDomains(0) {
			refusesDomain(t, c, nil, d)
		}
		tells(t, c, 1, nil, 1, [][]int{{}})
		tells(t, c, 1, []int{}, api.MaxTuples, [][]int{nil})
		tells(t, c, 0, nil, 0, nil)
		tellsNot(t, c, 1, nil, 0, api.ErrFull)
		tellsNot(t, c, 2, nil, 1, api.ErrNone)
		tellsNot(t, c, 2, nil, -1, api.ErrArg)
		counts(t, s, 2, 0, 0)
	}
	s, c := open(t, woven(sized(3)), 0, 10)
	givesThis(t, c, question{tuple, nil, nil}, 1)
	tells(t, c, 1, nil, 1, [][]int{{}})
	tells(t, c, 0, nil, 1, nil)
	tellsNot(t, c, mk(t, s, 1, 0, 1), nil, 1, api.ErrArg)
	tellsNot(t, c, mk(t, s, 0, 0, 1), nil, 0, api.ErrArg)
}

// refusesDomain wants all calls to refuse a domain that is none, alone and beside some that are.
func refusesDomain(t *testing.T, c *code.Code, some []int, none int) {
	t.Helper()
	values := make([]int, len(some)+1)
	for at := range len(some) + 1 {
		l := slices.Insert(slices.Clone(some), at, none)
		if vars, e := c.Vars(l); len(vars) != 0 || e != api.ErrArg {
			t.Fatalf("Vars(%v): %v, error %d, not ErrArg", l, vars, e)
		}
		refuses(t, c, question{tuple, l, values}, api.ErrArg)
		tellsNot(t, c, 0, l, 9, api.ErrArg)
		tellsNot(t, c, 1, l, 9, api.ErrArg)
		tellsNot(t, c, 99, l, 0, api.ErrArg)
	}
	refuses(t, c, question{within, []int{none}, []int{0, 0}}, api.ErrArg)
	refuses(t, c, question{within, []int{none}, []int{1, 0}}, api.ErrArg)
	for _, d := range append(some, none) {
		for _, call := range []int{equal, sum} {
			refuses(t, c, question{call, []int{d, none}, []int{0}}, api.ErrArg)
			refuses(t, c, question{call, []int{none, d}, []int{0}}, api.ErrArg)
		}
	}
}

// Co1 to Co3: numbers that are no domains, in each place of a list, and by each call; the last one is one.
func TestDomainsThatAreNone(t *testing.T) {
	for _, n := range []int{1, 2, 3, 32} {
		l := woven(sized(slices.Repeat([]int{3}, n)...))
		s, c := open(t, l, 0, 1000)
		for _, d := range noDomains(n) {
			for _, some := range lists(min(n, 3), 2) {
				refusesDomain(t, c, some, d)
			}
		}
		counts(t, s, 2, 0, 0)
		for _, last := range []int{0, n - 1} {
			if vars, e := c.Vars([]int{last}); e != api.OK || !slices.Equal(vars, l.vars[last]) {
				t.Fatalf("Vars of the domain %d: %v, error %d", last, vars, e)
			}
			tells(t, c, gives(t, c, question{within, []int{last}, []int{1, 2}}), []int{last}, 2, [][]int{{1}, {2}})
		}
	}
}

// Co1 to Co3: lists that have a domain twice, and lists that are as long as may be, and longer.
func TestLongLists(t *testing.T) {
	const n = api.MaxDoms
	l := woven(sized(slices.Repeat([]int{2}, n)...))
	_, c := open(t, l, 0, 1000)
	whole, values := upTo(n), slices.Repeat([]int{1}, n)
	k := gives(t, c, question{tuple, whole, values})
	tells(t, c, k, whole, 1, [][]int{values})
	if vars, e := c.Vars(whole); e != api.OK || !slices.Equal(vars, whole) {
		t.Fatalf("Vars of all: %v, error %d", vars, e)
	}
	for _, doms := range [][]int{{0, 0}, {31, 31}, {0, 1, 0}, {5, 3, 3}, {7, 8, 9, 8}, append(upTo(n), 0), append(upTo(n), 31), append(upTo(n-1), 30), slices.Repeat([]int{4}, 33), slices.Repeat([]int{0}, 1<<20), slices.Repeat(upTo(n), 1<<15)} {
		short := doms[:min(len(doms), 40)]
		if vars, e := c.Vars(doms); len(vars) != 0 || e != api.ErrArg {
			t.Fatalf("Vars(%v ...): %v, error %d, not ErrArg", short, vars, e)
		}
		if k, e := c.Tuple(doms, make([]int, len(doms))); k != 0 || e != api.ErrArg {
			t.Fatalf("Tuple(%v ...): %d, error %d, not ErrArg", short, k, e)
		}
		for _, k := range []int{0, k, 1, 999, -1} {
			if l, e := c.Tuples(k, doms, 9); len(l) != 0 || e != api.ErrArg {
				t.Fatalf("Tuples(%v ...): %v, error %d, not ErrArg", short, l, e)
			}
		}
	}
}

// Co2: Tuple of all lists of domains and all values, and of some more that may not be, of all lots of sizes by all orders.
func TestTupleOfAll(t *testing.T) {
	for _, sizes := range lots() {
		everyOrder(sized(sizes...), func(l laid) {
			for _, doms := range lists(len(sizes), 3) {
				rowsOf(l, doms, func(values []int) {
					s, c := open(t, l, len(l.order)%2, 100)
					holds(t, s, c, l, question{tuple, doms, values})
				})
			}
		})
	}
}

// rowsOf goes through all values of domains, and those one below and one above.
func rowsOf(l laid, doms []int, do func(values []int)) {
	rows := [][]int{nil}
	for _, d := range doms {
		var next [][]int
		for _, row := range rows {
			for value := -1; value <= l.doms[d].Size; value++ {
				if len(rows) < 50 || value > l.doms[d].Size-3 {
					next = append(next, append(slices.Clone(row), value))
				}
			}
		}
		rows = next
	}
	for _, row := range rows {
		do(row)
	}
}

// Co2: Tuple of lists that are not as long as one another.
func TestTupleOfUnlikeLists(t *testing.T) {
	l := woven(sized(3, 1, 4))
	s, c := open(t, l, 1, 100)
	for _, doms := range lists(3, 3) {
		for length := range 5 {
			x := question{tuple, doms, make([]int, length)}
			if length == len(doms) {
				gives(t, c, x)
				s.Sweep()
			} else {
				refuses(t, c, x, api.ErrArg)
			}
			if s.Len() != 2 {
				t.Fatalf("%v: Len: %d", x, s.Len())
			}
		}
	}
	refuses(t, c, question{tuple, []int{0}, make([]int, 1<<20)}, api.ErrArg)
}

// Co2: values that no domain may have, in each place.
func TestValuesThatMayNotBe(t *testing.T) {
	doms := sized(5, 1, 8, 1<<30)
	s, c := open(t, woven(doms), 0, 1000)
	for d, dom := range doms {
		for _, value := range noValues(dom.Size) {
			if value >= 0 && value < dom.Size {
				continue
			}
			values := make([]int, 4)
			values[d] = value
			refuses(t, c, question{tuple, upTo(4), values}, api.ErrArg)
			refuses(t, c, question{tuple, []int{d}, []int{value}}, api.ErrArg)
			for _, other := range []int{0, dom.Size - 1, value} {
				refuses(t, c, question{within, []int{d}, []int{value, other}}, api.ErrArg)
				refuses(t, c, question{within, []int{d}, []int{other, value}}, api.ErrArg)
			}
		}
	}
	counts(t, s, 2, 0, 0)
}

// Co2: Range of all domains from all numbers to all numbers, and some that may not be, of all lots of sizes by all orders.
func TestRangeOfAll(t *testing.T) {
	for _, sizes := range append(lots(), []int{16}, []int{13}, []int{3, 17}) {
		everyOrder(sized(sizes...), func(l laid) {
			for d, dom := range l.doms {
				for low := -1; low <= dom.Size; low++ {
					for high := -1; high <= dom.Size; high++ {
						s, c := open(t, l, len(l.order)%2, 100)
						holds(t, s, c, l, question{within, []int{d}, []int{low, high}})
					}
				}
			}
		})
	}
}

// Co2: ranges whose low is above high are nowhere, all values of a power of two are everywhere, and those of one value are its Tuple: no node is made of the first two.
func TestPlainRanges(t *testing.T) {
	for _, size := range []int{1, 2, 3, 4, 64, 100, 1 << 29, 1<<30 - 1, 1 << 30} {
		l := woven(sized(size))
		s, c := open(t, l, 0, 1000)
		last := size - 1
		if size > 1 {
			givesThis(t, c, question{within, []int{0}, []int{last, 0}}, 0)
			givesThis(t, c, question{within, []int{0}, []int{last, last - 1}}, 0)
			givesThis(t, c, question{within, []int{0}, []int{1, 0}}, 0)
		}
		if size&last == 0 {
			givesThis(t, c, question{within, []int{0}, []int{0, last}}, 1)
			givesThis(t, c, question{equal, []int{0, 0}, nil}, 1)
		}
		counts(t, s, 2, 0, 0)
		for _, value := range []int{0, last / 2, last} {
			k := gives(t, c, question{within, []int{0}, []int{value, value}})
			givesThis(t, c, question{tuple, []int{0}, []int{value}}, k)
			tells(t, c, k, []int{0}, 1, [][]int{{value}})
		}
	}
}

// Co2: Equal of all domains, of one and itself, and of unlike sizes, of all lots of sizes by all orders.
func TestEqualOfAll(t *testing.T) {
	for _, sizes := range append(lots(), []int{13, 13}, []int{3, 9, 3}) {
		everyOrder(sized(sizes...), func(l laid) {
			for a := -1; a <= len(sizes); a++ {
				for b := -1; b <= len(sizes); b++ {
					s, c := open(t, l, len(l.order)%2, 200)
					holds(t, s, c, l, question{equal, []int{a, b}, nil})
				}
			}
		})
	}
}

// Co2: Equal of domains whose sizes differ, though they have as many bits, and of ones that have the same size and other names.
func TestEqualOfUnlikeSizes(t *testing.T) {
	doms := sized(5, 6, 8, 5, 1<<30, 1<<30-1, 1<<29+1, 1<<30)
	s, c := open(t, woven(doms), 0, 1000)
	for a := range doms {
		for b := range doms {
			x := question{equal, []int{a, b}, nil}
			if doms[a].Size == doms[b].Size {
				gives(t, c, x)
				s.Sweep()
			} else {
				refuses(t, c, x, api.ErrArg)
			}
			if s.Len() != 2 {
				t.Fatalf("%v: Len: %d", x, s.Len())
			}
		}
	}
}

// Co2: Add of all domains and of all numbers that give some values, and of some more, of all lots of sizes by all orders.
func TestAddOfAll(t *testing.T) {
	for _, sizes := range append(lots(), []int{13, 9}, []int{3, 9, 3}) {
		everyOrder(sized(sizes...), func(l laid) {
			for a := -1; a <= len(sizes); a++ {
				for b := -1; b <= len(sizes); b++ {
					for _, more := range someMore(l, a, b) {
						s, c := open(t, l, len(l.order)%2, 200)
						holds(t, s, c, l, question{sum, []int{a, b}, []int{more}})
					}
				}
			}
		})
	}
}

// someMore is the numbers by which a domain's values may be more than another one's, with the ones beyond both ends.
func someMore(l laid, a, b int) []int {
	if min(a, b) < 0 || max(a, b) >= len(l.doms) || a == b {
		return []int{0, 1, -1}
	}
	var out []int
	for more := -l.doms[a].Size; more <= l.doms[b].Size; more++ {
		out = append(out, more)
	}
	return out
}

// Co2: Add of numbers at the edge, and beyond it, of domains that are as great as may be, and of small ones.
func TestAddOfNumbersAtTheEdge(t *testing.T) {
	for _, sizes := range [][]int{{1 << 30, 1 << 30}, {1 << 30, 1}, {1, 1 << 30}, {3, 5}, {1, 1}} {
		s, c := open(t, woven(sized(sizes...)), 0, 1000)
		for _, more := range []int{-1 << 30, -1<<30 + 1, 1<<30 - 1, 1 << 30} {
			for _, doms := range [][]int{{0, 1}, {1, 0}} {
				var want [][]int
				if a := max(0, -more); a < sizes[doms[0]] && a+more < sizes[doms[1]] {
					want = [][]int{{a, a + more}}
				}
				tells(t, c, gives(t, c, question{sum, doms, []int{more}}), doms, 1, want)
			}
		}
		length, made := s.Len(), s.Made()
		for _, more := range []int{math.MinInt, math.MinInt + 1, -1 << 62, -1 << 32, -1 << 31, -1<<30 - 1, 1<<30 + 1, 1 << 31, 1 << 32, 1<<32 + 1, 1 << 62, math.MaxInt - 1, math.MaxInt} {
			for _, doms := range [][]int{{0, 1}, {1, 0}, {0, 0}} {
				refuses(t, c, question{sum, doms, []int{more}}, api.ErrArg)
			}
		}
		for _, d := range []int{0, 1} {
			for _, more := range []int{0, 1, -1, 1 << 30} {
				refuses(t, c, question{sum, []int{d, d}, []int{more}}, api.ErrArg)
			}
		}
		counts(t, s, length, made, 0)
	}
}

// Co2: thrown questions of thrown domains by thrown orders, one behind the other in one store, each node held against what it must say.
func TestThrownQuestions(t *testing.T) {
	throw := dice(1)
	for range 400 {
		l := throwLaid(throw, 8)
		s, c := open(t, l, throw(2), 100000)
		for range 10 {
			holds(t, s, c, l, throwQuestion(throw, l.doms, throw(5) == 0))
		}
	}
}

// Co2: great domains: what each node says of thrown values, and of ones at the edges of what it says, and of how many.
func TestGreatDomains(t *testing.T) {
	throw := dice(2)
	for range 300 {
		// They have as many bits: only then those that are worth the same stand beside one another.
		half := 1 << throw(30)
		sizes := []int{half + 1 + throw(half), half + 1 + throw(half)}
		if throw(2) == 0 {
			sizes[1] = sizes[0]
		}
		doms := sized(sizes...)
		l := woven(doms)
		s, c := open(t, l, throw(3), 2000)
		x := throwQuestion(throw, doms, false)
		if !x.may(doms) {
			refuses(t, c, x, api.ErrArg)
			continue
		}
		k := gives(t, c, x)
		many(t, s, l, k, x)
		for range 200 {
			row := near(throw, l, x)
			says(t, s, l, k, x, row)
		}
	}
}

// near is a row of all domains' values, at or beside an edge of what is said of them, or thrown.
func near(throw func(n int) int, l laid, x question) []int {
	row := make([]int, len(l.doms))
	for d, dom := range l.doms {
		edges := append([]int{0, 1 << widthOf(dom.Size), dom.Size, throw(dom.Size)}, x.values...)
		row[d] = edges[throw(len(edges))] + throw(3) - 1
	}
	if x.call >= equal && throw(2) == 0 {
		row[x.doms[1]] = row[x.doms[0]] + throw(8)/7
		if x.call == sum {
			row[x.doms[1]] += x.values[0]
		}
	}
	for d, dom := range l.doms {
		row[d] = min(max(row[d], 0), 1<<widthOf(dom.Size)-1)
	}
	return row
}

// says wants a node that answers a question to say what it must where all domains have these values.
func says(t *testing.T, s *node.Store, l laid, k int, x question, row []int) {
	t.Helper()
	said, e := s.Eval(k, l.bools(s.Vars(), upTo(len(row)), row))
	if e != api.OK || said != x.says(l.doms, row) {
		t.Fatalf("%v of %v: the node says %v of %v, error %d", x, l.doms, said, row, e)
	}
}

// many wants the node that answers a question to say true of as many of its domains' values as it must.
func many(t *testing.T, s *node.Store, l laid, k int, x question) {
	t.Helper()
	want := 1
	switch x.call {
	case within:
		want = max(0, x.values[1]-x.values[0]+1)
	case equal:
		want = l.doms[x.doms[0]].Size
	case sum:
		more := x.values[0]
		want = max(0, min(l.doms[x.doms[0]].Size, l.doms[x.doms[1]].Size-more)-max(0, -more))
	}
	var vars []int
	for _, d := range slices.Compact(slices.Clone(x.doms)) {
		vars = append(vars, l.vars[d]...)
	}
	if n, e := count.Sat(s, k, vars); n != want || e != api.OK {
		t.Fatalf("%v of %v: the node says true %d times, error %d, not %d times", x, l.doms, n, e, want)
	}
}

// spread is what a thrown node says that asks variables of some domains alone, and says true of about every so manyth of their values.
func spread(throw func(n int) int, l laid, vars int, doms []int, every int) string {
	marks := map[string]byte{}
	var said []byte
	all(vars, func(values []bool) {
		var key []byte
		for _, d := range doms {
			for _, v := range l.vars[d] {
				key = append(key, digit(values[v]))
			}
		}
		if marks[string(key)] == 0 {
			marks[string(key)] = digit(throw(every) == 0)
		}
		said = append(said, marks[string(key)])
	})
	return string(said)
}

// Co3: Tuples of thrown nodes of some domains, asked of all lists of domains, with all bounds around as many as there are.
func TestTuplesOfAll(t *testing.T) {
	throw := dice(3)
	for _, sizes := range lots() {
		everyOrder(sized(sizes...), func(l laid) {
			vars := bitsOf(l.doms) + 1
			s, c := open(t, l, 1, 5000)
			for _, doms := range lists(len(sizes), 2) {
				k := build(t, s, spread(throw, l, vars, doms, 2+throw(6)))
				length := s.Len()
				for _, asks := range lists(len(sizes), 3) {
					asked(t, s, c, l, k, asks, api.MaxTuples)
				}
				n := len(l.tuplesOf(truth(t, s, k, vars), vars, doms))
				for _, most := range []int{-1, 0, 1, n - 1, n, n + 1, api.MaxTuples, api.MaxTuples + 1} {
					asked(t, s, c, l, k, doms, most)
				}
				if s.Len() != length {
					t.Fatalf("Tuples made %d nodes", s.Len()-length)
				}
			}
		})
	}
}

// Co3: constants, that say true of values that may not be, too, and other nodes that do.
func TestTuplesThatMayNotBe(t *testing.T) {
	everyOrder(sized(5, 1, 3), func(l laid) {
		s, c := open(t, l, 2, 1000)
		for _, doms := range lists(3, 3) {
			asked(t, s, c, l, 0, doms, 0)
			n := len(l.tuplesOf(truth(t, s, 1, s.Vars()), s.Vars(), doms))
			asked(t, s, c, l, 1, doms, n)
			asked(t, s, c, l, 1, doms, n-1)
		}
		tells(t, c, 1, []int{0}, 8, [][]int{{0}, {1}, {2}, {3}, {4}, {5}, {6}, {7}})
		tells(t, c, 1, []int{1}, 1, [][]int{{0}})
		tells(t, c, 1, []int{2, 1}, 4, [][]int{{0, 0}, {1, 0}, {2, 0}, {3, 0}})
		not := must(c.Quan().Ops().Not(gives(t, c, question{within, []int{0}, []int{1, 4}})))
		tells(t, c, not, []int{0}, 4, [][]int{{0}, {5}, {6}, {7}})
		tells(t, c, not, []int{1, 0}, 4, [][]int{{0, 0}, {0, 5}, {0, 6}, {0, 7}})
	})
}

// Co3: the domains of a list in another order than that of New: the rows stand by the list's first one.
func TestTuplesOfOtherLists(t *testing.T) {
	everyOrder(sized(4, 3, 5), func(l laid) {
		_, c := open(t, l, 0, 1000)
		k := 0
		for _, row := range [][]int{{0, 2, 1}, {1, 0, 4}, {3, 1, 0}, {1, 0, 3}} {
			k = must(c.Quan().Ops().Or(k, gives(t, c, question{tuple, []int{0, 1, 2}, row})))
		}
		tells(t, c, k, []int{0, 1, 2}, 4, [][]int{{0, 2, 1}, {1, 0, 3}, {1, 0, 4}, {3, 1, 0}})
		tells(t, c, k, []int{0, 2, 1}, 4, [][]int{{0, 1, 2}, {1, 3, 0}, {1, 4, 0}, {3, 0, 1}})
		tells(t, c, k, []int{1, 0, 2}, 4, [][]int{{0, 1, 3}, {0, 1, 4}, {1, 3, 0}, {2, 0, 1}})
		tells(t, c, k, []int{1, 2, 0}, 4, [][]int{{0, 3, 1}, {0, 4, 1}, {1, 0, 3}, {2, 1, 0}})
		tells(t, c, k, []int{2, 0, 1}, 4, [][]int{{0, 3, 1}, {1, 0, 2}, {3, 1, 0}, {4, 1, 0}})
		tells(t, c, k, []int{2, 1, 0}, 4, [][]int{{0, 1, 3}, {1, 2, 0}, {3, 0, 1}, {4, 0, 1}})
		for _, doms := range lists(3, 2) {
			tellsNot(t, c, k, doms, 9, api.ErrArg)
		}
	})
}

// Co3: nodes that ask a variable that is none of the list's domains': another domain's, or one behind all domains; such a domain without bits is not missed.
func TestNodesThatAskOthers(t *testing.T) {
	l := stacked(sized(4, 2, 1, 3))
	s, c := open(t, l, 2, 1000)
	for v := range s.Vars() {
		k := mk(t, s, v, 0, 1)
		for _, doms := range lists(4, 3) {
			mine := slices.ContainsFunc(doms, func(d int) bool { return slices.Contains(l.vars[d], v) })
			if _, e := c.Tuples(k, doms, api.MaxTuples); mine != (e == api.OK) || !mine && e != api.ErrArg {
				t.Fatalf("Tuples(%v) of a node that asks %d: error %d", doms, v, e)
			}
			if !mine {
				tellsNot(t, c, k, doms, 0, api.ErrArg)
			}
		}
	}
	k := gives(t, c, question{tuple, []int{0, 2}, []int{3, 0}})
	tells(t, c, k, []int{0}, 1, [][]int{{3}})
	tells(t, c, k, []int{2, 0}, 1, [][]int{{0, 3}})
}

// Co3: bounds that may not be, and numbers that are no nodes.
func TestBoundsThatMayNotBe(t *testing.T) {
	l := woven(sized(3, 3))
	s, c := open(t, l, 1, 100)
	k := gives(t, c, question{tuple, []int{0}, []int{2}})
	other := mk(t, s, 4, 0, 1)
	for _, n := range append(wrong(), k, other, 0, 1) {
		for _, most := range noBounds() {
			tellsNot(t, c, n, []int{0, 1}, most, api.ErrArg)
			tellsNot(t, c, n, nil, most, api.ErrArg)
		}
	}
	for _, none := range append(wrong(), s.Len()) {
		for _, most := range []int{0, 1, api.MaxTuples} {
			tellsNot(t, c, none, []int{0, 1}, most, api.ErrNone)
			tellsNot(t, c, none, nil, most, api.ErrNone)
		}
	}
	tells(t, c, k, []int{0}, 1, [][]int{{2}})
	tellsNot(t, c, k, []int{0}, 0, api.ErrFull)
	tells(t, c, 0, []int{0}, 0, nil)
	tells(t, c, 0, []int{0}, api.MaxTuples, nil)
	s.Sweep()
	tellsNot(t, c, k, []int{0}, 1, api.ErrNone)
}

// Co3: in which order errors come: the list, the bound and the bits ahead of a node that is none, and a node that asks others ahead of one that says true of too many.
func TestErrorsInOrder(t *testing.T) {
	l := stacked(sized(1<<30, 1<<30, 4, 2))
	s, c := open(t, l, 1, 1000)
	others := mk(t, s, 63, 0, 1)
	for _, k := range []int{999, -1, others, 0, 1} {
		tellsNot(t, c, k, []int{0, 0}, 9, api.ErrArg)
		tellsNot(t, c, k, []int{4}, 9, api.ErrArg)
		tellsNot(t, c, k, []int{0}, -1, api.ErrArg)
		tellsNot(t, c, k, []int{0}, api.MaxTuples+1, api.ErrArg)
		tellsNot(t, c, k, []int{0, 1, 2, 3}, 9, api.ErrArg)
		tellsNot(t, c, k, []int{3, 2, 1, 0}, api.MaxTuples, api.ErrArg)
	}
	tellsNot(t, c, 999, []int{0, 1, 2}, 0, api.ErrNone)
	tellsNot(t, c, others, []int{0, 1, 2}, 0, api.ErrArg)
	tellsNot(t, c, 1, []int{0, 1, 2}, 0, api.ErrFull)
	tellsNot(t, c, 1, []int{0, 1, 2}, api.MaxTuples, api.ErrFull)
	tells(t, c, 0, []int{0, 1, 2}, 0, nil)
	newRefuses(t, nil, l.doms, "", api.ErrArg)
	newRefuses(t, c.Quan(), sized(2, 0), "A", api.ErrArg)
	newRefuses(t, c.Quan(), sized(1<<30, 1<<30, 32), "A", api.ErrArg)
	newRefuses(t, c.Quan(), sized(1<<30, 1<<30, 16), "A", api.ErrOrder)
	counts(t, s, 3, 1, 0)
}

// Co3: domains with 62 bits, in any order, and with 63.
func TestSixtyTwoBits(t *testing.T) {
	const most = 1 << 30
	doms := sized(most, most, 4, 1, 2)
	for _, l := range []laid{woven(doms), stacked(doms), lays(doms, [][]int{{4, 2}, {1, 3}, {0}})} {
		s, c := open(t, l, 0, 1000)
		rows := [][]int{{0, 0, 0, 0}, {0, most - 1, 3, 0}, {1, 2, 3, 0}, {most - 1, 0, 1, 0}, {most - 1, most - 1, 3, 0}, {most / 2, 1, 0, 0}}
		k := 0
		for _, row := range rows {
			k = must(c.Quan().Ops().Or(k, gives(t, c, question{tuple, upTo(4), row})))
		}
		for _, asks := range lists(4, 4) {
			if len(asks) < 4 {
				continue
			}
			tells(t, c, k, asks, len(rows), turned(rows, asks))
			tellsNot(t, c, k, asks, len(rows)-1, api.ErrFull)
			for at := range 5 {
				tellsNot(t, c, k, slices.Insert(slices.Clone(asks), at, 4), api.MaxTuples, api.ErrArg)
			}
		}
		tells(t, c, k, []int{1, 0, 2}, 9, turned(rows, []int{1, 0, 2}))
		k = gives(t, c, question{tuple, []int{0, 1, 4}, []int{most - 1, 1, 1}})
		tells(t, c, k, []int{0, 4, 1}, 1, [][]int{{most - 1, 1, 1}})
		tellsNot(t, c, k, []int{0, 1, 2}, 9, api.ErrArg)
		s.Sweep()
	}
}

// turned is rows of other columns of each, rising.
func turned(rows [][]int, columns []int) [][]int {
	var out [][]int
	for _, row := range rows {
		var next []int
		for _, at := range columns {
			next = append(next, row[at])
		}
		out = append(out, next)
	}
	slices.SortFunc(out, slices.Compare[[]int])
	return out
}

// Co3: as many tuples as may be, and one more.
func TestMostTuples(t *testing.T) {
	const most = api.MaxTuples
	for _, l := range []laid{woven(sized(1<<20, 2)), stacked(sized(1<<20, 2))} {
		_, c := open(t, l, 0, 1000)
		k := gives(t, c, question{within, []int{0}, []int{77777, 77777 + most - 1}})
		var want [][]int
		for n := range most {
			want = append(want, []int{77777 + n})
		}
		tells(t, c, k, []int{0}, most, want)
		tellsNot(t, c, k, []int{0}, most-1, api.ErrFull)
		tellsNot(t, c, k, []int{1, 0}, most, api.ErrFull)
		k = gives(t, c, question{within, []int{0}, []int{77777, 77777 + most}})
		tellsNot(t, c, k, []int{0}, most, api.ErrFull)
		tellsNot(t, c, k, []int{0}, most+1, api.ErrArg)
		k = gives(t, c, question{within, []int{0}, []int{5, 5 + most/2 - 1}})
		want = nil
		for n := range most {
			want = append(want, []int{n / (most / 2), 5 + n%(most/2)})
		}
		tells(t, c, k, []int{1, 0}, most, want)
		tellsNot(t, c, k, []int{0, 1}, most-1, api.ErrFull)
	}
}

// Co4: Tuples of one node are what was put into it by Or of Tuple, whatever the order is, of the domains in the text, in the lists that were put and in the one that is asked, and in whatever order they were put.
func TestAsPut(t *testing.T) {
	throw := dice(4)
	for range 300 {
		var sizes []int
		for range 1 + throw(5) {
			sizes = append(sizes, 1+throw(1<<throw(10)))
		}
		doms := sized(sizes...)
		var put [][]int
		for range throw(30) {
			var row []int
			for _, size := range sizes {
				row = append(row, throw(size))
			}
			put = append(put, row)
		}
		for range 3 {
			l := throwOrder(throw, doms)
			_, c := open(t, l, throw(3), 20000)
			k := 0
			for _, at := range shuffled(throw, len(put)) {
				list := shuffled(throw, len(doms))
				var values []int
				for _, d := range list {
					values = append(values, put[at][d])
				}
				k = must(c.Quan().Ops().Or(k, gives(t, c, question{tuple, list, values})))
			}
			asks := shuffled(throw, len(doms))
			want := slices.CompactFunc(turned(put, asks), slices.Equal[[]int])
			tells(t, c, k, asks, len(want), want)
			if len(want) > 0 {
				tellsNot(t, c, k, asks, len(want)-1, api.ErrFull)
			}
		}
	}
}

// Co2, Co4: what calls say is one node, however it is said: a range is the Or of its values, Equal is Add of 0 and the Or of all pairs, Add turned round is Add of less.
func TestLaws(t *testing.T) {
	throw := dice(5)
	for range 1000 {
		l := throwLaid(throw, 9)
		_, c := open(t, l, throw(2), 100000)
		n := len(l.doms)
		d, a, b := throw(n), throw(n), throw(n)
		size := l.doms[d].Size
		low, high := throw(size), throw(size)
		var rows [][]int
		for value := low; value <= high; value++ {
			rows = append(rows, []int{value})
		}
		givesThis(t, c, question{within, []int{d}, []int{low, high}}, joined(t, c, []int{d}, rows))
		if a == b {
			givesThis(t, c, question{equal, []int{a, a}, nil}, gives(t, c, question{within, []int{a}, []int{0, l.doms[a].Size - 1}}))
			continue
		}
		more := throw(9) - 4
		rows = nil
		for value := range l.doms[a].Size {
			if value+more >= 0 && value+more < l.doms[b].Size {
				rows = append(rows, []int{value, value + more})
			}
		}
		k := gives(t, c, question{sum, []int{a, b}, []int{more}})
		givesThis(t, c, question{sum, []int{b, a}, []int{-more}}, k)
		if want := joined(t, c, []int{a, b}, rows); k != want {
			t.Fatalf("Add(%d, %d, %d) of %v: %d, not %d", a, b, more, l.doms, k, want)
		}
		if l.doms[a].Size == l.doms[b].Size {
			k := gives(t, c, question{sum, []int{a, b}, []int{0}})
			givesThis(t, c, question{equal, []int{a, b}, nil}, k)
			givesThis(t, c, question{equal, []int{b, a}, nil}, k)
		}
	}
}

// joined is the Or of tuples.
func joined(t *testing.T, c *code.Code, doms []int, rows [][]int) int {
	t.Helper()
	k := 0
	for _, row := range rows {
		k = must(c.Quan().Ops().Or(k, gives(t, c, question{tuple, doms, row})))
	}
	return k
}

// full wants a store to have as many nodes as there is room for: those that there were ahead, and beside them some of those that the node is of which says this.
func full(t *testing.T, s *node.Store, budget int, have map[string]int, said string) {
	t.Helper()
	if s.Len() != budget {
		t.Fatalf("Len: %d, not %d", s.Len(), budget)
	}
	of, now := parts(said, map[string]int{}), stands(t, s, budget)
	for part, k := range have {
		if now[part] != k {
			t.Fatalf("the node %d, that said %s, is gone", k, part)
		}
	}
	for part, k := range now {
		if have[part] == 0 && of[part] == 0 {
			t.Fatalf("the node %d, that was made on the way, says %s: no part of %s", k, part, said)
		}
	}
}

// Co2: with just as much room as the answer's nodes need, it is given; with less, ErrBudget, and what was made till then are nodes, all of the answer's; when these are swept away and others too, it is given.
func TestBudget(t *testing.T) {
	throw := dice(6)
	for range 300 {
		l := throwLaid(throw, 7)
		x := throwQuestion(throw, l.doms, false)
		if !x.may(l.doms) {
			continue
		}
		vars := bitsOf(l.doms) + throw(2)
		want := x.said(l, vars)
		needs := len(parts(want, map[string]int{}))
		for room := range needs + 1 {
			s := store(t, vars, 2+room)
			c := encode(t, quantify(t, s), l)
			if room == needs {
				holds(t, s, c, l, x)
				counts(t, s, 2+needs, needs, 0)
				continue
			}
			for range 2 {
				refuses(t, c, x, api.ErrBudget)
				full(t, s, 2+room, nil, want)
				counts(t, s, 2+room, room, 0)
			}
		}
	}
}

// Co2: the plainest nodes that there is no room for, by each call; and those that need none.
func TestBudgetOfPlainNodes(t *testing.T) {
	s, c := open(t, woven(sized(2, 2, 1)), 0, 2)
	for _, x := range []question{
		{tuple, []int{0}, []int{0}}, {tuple, []int{0}, []int{1}}, {tuple, []int{2, 1}, []int{0, 1}}, {within, []int{1}, []int{0, 0}}, {within, []int{1}, []int{1, 1}},
		{equal, []int{0, 1}, nil}, {sum, []int{0, 1}, []int{1}}, {sum, []int{2, 1}, []int{0}}, {sum, []int{1, 2}, []int{-1}},
	} {
		refuses(t, c, x, api.ErrBudget)
		x.doms[0] = 3
		refuses(t, c, x, api.ErrArg)
	}
	for _, x := range []question{{tuple, nil, nil}, {tuple, []int{2}, []int{0}}, {within, []int{1}, []int{0, 1}}, {within, []int{2}, []int{0, 0}}, {equal, []int{1, 1}, nil}, {equal, []int{2, 2}, nil}} {
		givesThis(t, c, x, 1)
	}
	for _, x := range []question{{within, []int{1}, []int{1, 0}}, {sum, []int{0, 1}, []int{2}}, {sum, []int{0, 1}, []int{-2}}, {sum, []int{2, 1}, []int{-1}}, {sum, []int{0, 1}, []int{1 << 30}}} {
		givesThis(t, c, x, 0)
	}
	counts(t, s, 2, 0, 0)
	tells(t, c, 1, []int{1}, 2, [][]int{{0}, {1}})
}

// Co2: where ErrBudget's call left nodes, and room is made then, the same is asked again, and given.
func TestRoomAgain(t *testing.T) {
	throw := dice(7)
	for range 600 {
		l := throwLaid(throw, 7)
		x := throwQuestion(throw, l.doms, false)
		if !x.may(l.doms) {
			continue
		}
		vars := bitsOf(l.doms)
		needs := len(parts(x.said(l, vars), map[string]int{}))
		if needs == 0 {
			continue
		}
		s, c := open(t, l, 1+needs, 2+needs)
		var ballast []int
		for v := range 1 + throw(needs) {
			ballast = append(ballast, mk(t, s, vars+v, 0, 1))
		}
		pin(t, s, ballast...)
		refuses(t, c, x, api.ErrBudget)
		for _, k := range ballast {
			s.Unpin(k)
		}
		refuses(t, c, x, api.ErrBudget)
		if n := s.Sweep(); n != needs {
			t.Fatalf("Sweep: %d, not %d", n, needs)
		}
		k := gives(t, c, x)
		for range 50 {
			says(t, s, l, k, x, near(throw, l, x))
		}
		many(t, s, l, k, x)
		if s.Len() != 2+needs {
			t.Fatalf("Len: %d, not %d", s.Len(), 2+needs)
		}
	}
}

// Co2: great domains, one behind the other: of those with 18 bits Equal and Add have room, of those with 19 they have not; both end, and so do they of the greatest ones.
func TestGreatStackedDomains(t *testing.T) {
	for _, bits := range []int{18, 19, 30} {
		l := stacked(sized(1<<bits, 1<<bits))
		s, c := open(t, l, 0, api.MaxBudget)
		x := question{equal, []int{0, 1}, nil}
		if bits == 18 {
			k := gives(t, c, x)
			many(t, s, l, k, x)
			counts(t, s, 2+3<<18-3, 3<<18-3, 0)
			continue
		}
		refuses(t, c, x, api.ErrBudget)
		counts(t, s, api.MaxBudget, api.MaxBudget-2, 0)
		refuses(t, c, question{sum, []int{1, 0}, []int{-1 << (bits - 1)}}, api.ErrBudget)
		refuses(t, c, question{tuple, []int{0, 1}, []int{3, 1<<bits - 1}}, api.ErrBudget)
		s.Sweep()
		for _, more := range []int{1<<bits - 1, 1<<bits - 1000, 1 - 1<<bits, 1000 - 1<<bits} {
			x := question{sum, []int{0, 1}, []int{more}}
			many(t, s, l, gives(t, c, x), x)
		}
	}
}

// Co2: of great domains that are woven the nodes are few, as many as there must be: each bit of the sum is asked with a carry and without, and with values that are at their end and not.
func TestGreatWovenDomains(t *testing.T) {
	l := woven(sized(1<<30, 1<<30))
	s, c := open(t, l, 0, 92)
	gives(t, c, question{equal, []int{0, 1}, nil})
	counts(t, s, 92, 90, 0)
	throw := dice(8)
	l = woven(sized(1<<30-1-throw(1000), 1<<30-1-throw(1000)))
	s, c = open(t, l, 0, 1000)
	for range 100 {
		x := question{sum, []int{0, 1}, []int{throw(1<<31) - 1<<30}}
		many(t, s, l, gives(t, c, x), x)
		s.Sweep()
	}
}

// Co2: as many domains and variables as may be.
func TestManyDomains(t *testing.T) {
	throw := dice(9)
	doms := sized(slices.Repeat([]int{250}, 32)...)
	for _, l := range []laid{woven(doms), stacked(doms), throwOrder(throw, doms)} {
		s, c := open(t, l, 0, 50000)
		for range 100 {
			x := throwQuestion(throw, doms, throw(5) == 0)
			if !x.may(doms) {
				refuses(t, c, x, api.ErrArg)
				continue
			}
			k := gives(t, c, x)
			for range 30 {
				says(t, s, l, k, x, near(throw, l, x))
			}
			if x.call != tuple {
				many(t, s, l, k, x)
			} else if n, e := s.Size(k); e != api.OK || n != 8*len(x.doms)+min(2, 1+len(x.doms)) {
				t.Fatalf("%v: %d nodes, error %d", x, n, e)
			}
			s.Sweep()
		}
		whole := gives(t, c, question{tuple, upTo(32), slices.Repeat([]int{249}, 32)})
		tellsNot(t, c, whole, upTo(32), 9, api.ErrArg)
		tellsNot(t, c, whole, upTo(7), 9, api.ErrArg)
	}
}

// notGiven wants what New did not give to answer so, whatever it is asked.
func notGiven(t *testing.T, c *code.Code) {
	t.Helper()
	if c.Quan() != nil || len(c.Doms()) != 0 {
		t.Fatal("Quan or Doms of what New did not give: not nil")
	}
	for _, l := range [][]int{nil, {0}, {1, 0}, {0, 0}, {-1}, {33}, upTo(33)} {
		if vars, e := c.Vars(l); len(vars) != 0 || e != api.ErrArg {
			t.Fatalf("Vars(%v) of what New did not give: %v, error %d", l, vars, e)
		}
		refuses(t, c, question{tuple, l, make([]int, len(l))}, api.ErrArg)
		for _, k := range append(wrong(), 0, 1, 2) {
			tellsNot(t, c, k, l, 5, api.ErrArg)
			tellsNot(t, c, k, l, -1, api.ErrArg)
		}
	}
	for _, a := range []int{0, 1, -1, math.MaxInt} {
		for _, b := range []int{0, 1, math.MinInt} {
			refuses(t, c, question{within, []int{a}, []int{b, 0}}, api.ErrArg)
			refuses(t, c, question{equal, []int{a, b}, nil}, api.ErrArg)
			refuses(t, c, question{sum, []int{a, b}, []int{0}}, api.ErrArg)
			refuses(t, c, question{sum, []int{a, b}, []int{math.MinInt}}, api.ErrArg)
		}
	}
}

// Co1, R1: what New did not give: none, empty ones, and ones that were copied, before they were asked anything and behind it.
func TestNotGiven(t *testing.T) {
	notGiven(t, nil)
	notGiven(t, &code.Code{})
	notGiven(t, new(code.Code))
	s, c := open(t, woven(sized(3, 3)), 0, 100)
	notGiven(t, copied(c))
	x := question{equal, []int{0, 1}, nil}
	k := gives(t, c, x)
	notGiven(t, copied(c))
	length := s.Len()
	givesThis(t, c, x, k)
	counts(t, s, length, length-2, 0)
}

// Co2, R2: sweeps: what has a pin keeps its number and is answered again; what has none is made anew.
func TestSweeps(t *testing.T) {
	throw := dice(10)
	for range 600 {
		l := throwLaid(throw, 7)
		s, c := open(t, l, 3, 300)
		x, y := throwQuestion(throw, l.doms, false), throwQuestion(throw, l.doms, false)
		if !x.may(l.doms) || !y.may(l.doms) {
			continue
		}
		gives(t, c, y)
		k := gives(t, c, x)
		pin(t, s, k)
		s.Sweep()
		givesThis(t, c, x, k)
		holds(t, s, c, l, y)
		s.Unpin(k)
		s.Sweep()
		if s.Len() != 2 {
			t.Fatalf("Len: %d", s.Len())
		}
		for v := range throw(4) {
			mk(t, s, s.Vars()-1-v, 1, 0)
		}
		k = holds(t, s, c, l, x)
		if n := build(t, s, x.said(l, s.Vars())); n != k {
			t.Fatalf("Mk of the same: %d, not %d", n, k)
		}
	}
}

// pick is a number that mostly is a node's.
func pick(s *node.Store, budget int, throw func(n int) int) int {
	k := throw(budget + 1)
	for range throw(12) {
		if there(s, k) && k > 1 {
			return k
		}
		k = throw(budget + 1)
	}
	return k
}

// play does one thing with a store and domains in it: an answer is held against what must be said, and against what there is room for.
func play(t *testing.T, s *node.Store, c *code.Code, l laid, budget int, throw func(n int) int) {
	t.Helper()
	some := func() int { return pick(s, budget, throw) }
	switch deed := throw(100); {
	case deed < 10:
		s.Mk(throw(s.Vars()), some(), some())
	case deed < 15:
		s.Pin(some())
	case deed < 25:
		s.Unpin(some())
	case deed < 30:
		s.Sweep()
	case deed < 40:
		c.Quan().Ops().Or(some(), some())
	case deed < 70:
		doms := throwList(throw, len(l.doms))
		if throw(9) == 0 {
			doms = append(doms, throw(6)-1)
		}
		length, made := s.Len(), s.Made()
		asked(t, s, c, l, some(), doms, []int{0, 1, 2, 5, 10, api.MaxTuples, -1, api.MaxTuples + 1}[throw(8)])
		counts(t, s, length, made, s.Sweeps())
	default:
		played(t, s, c, l, budget, throwQuestion(throw, l.doms, throw(9) == 0))
	}
}

// played asks a question in a store that may be full, and wants what the chapter says.
func played(t *testing.T, s *node.Store, c *code.Code, l laid, budget int, x question) {
	t.Helper()
	length, made, swept := s.Len(), s.Made(), s.Sweeps()
	if !x.may(l.doms) {
		refuses(t, c, x, api.ErrArg)
		counts(t, s, length, made, swept)
		return
	}
	want, have := x.said(l, s.Vars()), stands(t, s, budget)
	needs := missing(want, have)
	if needs > budget-length {
		refuses(t, c, x, api.ErrBudget)
		full(t, s, budget, have, want)
		counts(t, s, budget, made+budget-length, swept)
		return
	}
	k := gives(t, c, x)
	if got := truth(t, s, k, s.Vars()); got != want {
		t.Fatalf("%v of %v: the node %d says %s, not %s", x, l.doms, k, got, want)
	}
	counts(t, s, length+needs, made+needs, swept)
	now := stands(t, s, budget)
	for part, k := range have {
		if now[part] != k {
			t.Fatalf("the node %d said %s ahead of %v", k, part, x)
		}
	}
}

// Co1 to Co3, R2: thrown calls, in stores with room for few nodes and for some more: what is answered, what is made, and that all other nodes stay as they are.
func TestThrownCalls(t *testing.T) {
	throw := dice(11)
	for _, budget := range []int{2, 3, 5, 9, 16, 30, 60} {
		for range 20 {
			l := throwLaid(throw, 5)
			s, c := open(t, l, 1, budget)
			for range 400 {
				play(t, s, c, l, budget, throw)
			}
		}
	}
}

// R3: lists are not changed, nor the room behind their ends, and they are not kept; nor are New's domains.
func TestListsStay(t *testing.T) {
	throw := dice(12)
	for range 300 {
		l := throwLaid(throw, 8)
		n := len(l.doms)
		s := store(t, bitsOf(l.doms), 1000)
		room := append(slices.Clone(l.doms), api.Dom{Name: "?"}, l.doms[0])
		was := slices.Clone(room)
		c, e := code.New(quantify(t, s), room[:n], l.order)
		if e != api.OK || !slices.Equal(room, was) {
			t.Fatalf("New: error %d, or the domains are changed: %v", e, room)
		}
		clear(room)
		if !slices.Equal(c.Doms(), l.doms) {
			t.Fatalf("Doms: %v, not %v", c.Doms(), l.doms)
		}
		for range 10 {
			x := throwQuestion(throw, l.doms, throw(4) == 0)
			doms, values := roomy(x.doms), roomy(x.values)
			dw, vw := slices.Clone(doms), slices.Clone(values)
			y := question{x.call, doms[:len(x.doms)], values[:len(x.values)]}
			k, e := y.ask(c)
			tuples, f := c.Tuples(k, y.doms, 300)
			vars, g := c.Vars(y.doms)
			if !slices.Equal(doms, dw) || !slices.Equal(values, vw) {
				t.Fatalf("%v: the lists are changed: %v %v", x, doms, values)
			}
			clear(doms)
			clear(values)
			if again, h := x.ask(c); again != k || h != e {
				t.Fatalf("%v: %d, error %d, not %d, error %d", x, again, h, k, e)
			}
			if again, h := c.Tuples(k, x.doms, 300); !rows(again, tuples) || h != f {
				t.Fatalf("Tuples(%d, %v): %v, error %d, not %v, error %d", k, x.doms, again, h, tuples, f)
			}
			if again, h := c.Vars(x.doms); !slices.Equal(again, vars) || h != g {
				t.Fatalf("Vars(%v): %v, error %d, not %v, error %d", x.doms, again, h, vars, g)
			}
		}
	}
}

// roomy is a list with other numbers behind its end.
func roomy(l []int) []int {
	return append(slices.Clone(l), -7, 0, 300, 1)
}

// scribble writes over a list, and over the room behind its end.
func scribble(l []int) {
	l = l[:cap(l)]
	for i := range l {
		l[i] = -9
	}
}

// R3, R4: an answer's lists are new memory: what is written into one, and behind its end, is seen in no other one, nor in what is answered later.
func TestAnswersAreNew(t *testing.T) {
	throw := dice(13)
	for range 200 {
		l := throwLaid(throw, 8)
		s, c := open(t, l, 0, 1000)
		whole := upTo(len(l.doms))
		k := build(t, s, spread(throw, l, s.Vars(), whole, 3))
		want := l.tuplesOf(truth(t, s, k, s.Vars()), s.Vars(), whole)
		for at := range want {
			rows, _ := c.Tuples(k, whole, 256)
			scribble(rows[at])
			rows = slices.Delete(rows, at, at+1)
			if !slices.EqualFunc(rows, slices.Delete(slices.Clone(want), at, at+1), slices.Equal[[]int]) {
				t.Fatalf("Tuples of %v: the row %d shares room with another one: %v", l.doms, at, rows)
			}
		}
		for range 2 {
			tells(t, c, k, whole, 256, want)
			doms := c.Doms()
			vars, _ := c.Vars(whole)
			other, _ := c.Vars(whole[:1])
			if !slices.Equal(doms, l.doms) || !slices.Equal(vars, slices.Concat(l.vars...)) || !slices.Equal(other, l.vars[0]) {
				t.Fatalf("Doms %v, Vars %v, %v, of %v", doms, vars, other, l)
			}
			clear(doms[:cap(doms)])
			scribble(vars)
			scribble(other)
			holds(t, s, c, l, throwQuestion(throw, l.doms, false))
		}
	}
}

// R4: the same calls answer the same, whatever else is asked of other ones, and of others in the same store.
func TestTheirOwn(t *testing.T) {
	throw := dice(14)
	for range 30 {
		l := throwLaid(throw, 6)
		m := throwOrder(throw, l.doms)
		seed := uint64(throw(1 << 20))
		once, again := dice(seed), dice(seed)
		s, c := open(t, l, 1, 40)
		r, d := open(t, l, 1, 40)
		other, idle := open(t, m, 1, 40)
		for i := range 100 {
			play(t, s, c, l, 40, once)
			if i%3 == 0 {
				d = encode(t, d.Quan(), l)
				encode(t, d.Quan(), m)
			}
			play(t, r, d, l, 40, again)
			counts(t, r, s.Len(), s.Made(), s.Sweeps())
		}
		for k := range 41 {
			v, low, high, e := s.Node(k)
			w, lo, hi, f := r.Node(k)
			if v != w || low != lo || high != hi || e != f {
				t.Fatalf("Node(%d): %d %d %d, error %d, and %d %d %d, error %d", k, v, low, high, e, w, lo, hi, f)
			}
		}
		counts(t, other, 2, 0, 0)
		holds(t, other, idle, m, question{within, []int{0}, []int{0, 0}})
	}
}
