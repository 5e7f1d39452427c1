package count_test

import (
	"math"
	"math/big"
	"slices"
	"testing"

	"osier/api"
	"osier/count"
	"osier/node"
	"osier/oper"
)

// model is a store by what its nodes say: the bit of a place is what is said of the values that the place's bits are.
type model struct {
	vars int
	says map[int]uint64
}

// all is a node that says true of all values.
func all(vars int) uint64 {
	return 1<<(1<<vars) - 1
}

// half is what is said, if a variable has a value, of all values of that variable.
func half(said uint64, vars, v int, value bool) uint64 {
	out := uint64(0)
	for place := range 1 << vars {
		from := place &^ (1 << v)
		if value {
			from |= 1 << v
		}
		out |= said >> from & 1 << place
	}
	return out
}

// hangs is the variables on which it hangs what is said.
func hangs(said uint64, vars int) []int {
	var l []int
	for v := range vars {
		if half(said, vars, v, false) != half(said, vars, v, true) {
			l = append(l, v)
		}
	}
	return l
}

// numbersOf is the numbers of a list's values for which true is said, rising: all of them are gone through. It must hang on no other variable what is said.
func numbersOf(said uint64, vars []int) []int {
	var l []int
	for n := range 1 << len(vars) {
		place := 0
		for i, v := range vars {
			place |= n >> i & 1 << v
		}
		if said>>place&1 == 1 {
			l = append(l, n)
		}
	}
	return l
}

// waysOf is the ways by which true is said: variable by variable, but for those on which it does not hang what is left to say.
func waysOf(said uint64, vars int) [][]int {
	var l [][]int
	var from func(v int, said uint64, way []int)
	from = func(v int, said uint64, way []int) {
		if v == vars {
			if said&1 == 1 {
				l = append(l, slices.Clone(way))
			}
			return
		}
		low, high := half(said, vars, v, false), half(said, vars, v, true)
		if low == high {
			from(v+1, said, append(way, 2))
			return
		}
		from(v+1, low, append(way, 0))
		from(v+1, high, append(way, 1))
	}
	from(0, said, nil)
	return l
}

// firstOf is the values that stand first of which true is said: all of them are gone through, as they stand.
func firstOf(said uint64, vars int) ([]bool, api.Errno) {
	values := make([]bool, vars)
	for turn := range 1 << vars {
		place := 0
		for v := range vars {
			values[v] = turn>>(vars-1-v)&1 == 1
			if values[v] {
				place |= 1 << v
			}
		}
		if said>>place&1 == 1 {
			return values, api.OK
		}
	}
	return nil, api.ErrNone
}

// refusal is why a number is refused, or a list of variables, or OK.
func (m model) refusal(k int, vars []int) api.Errno {
	for i, v := range vars {
		if v < 0 || v >= m.vars || slices.Contains(vars[:i], v) {
			return api.ErrArg
		}
	}
	if _, there := m.says[k]; !there {
		return api.ErrNone
	}
	return api.OK
}

// lacks is whether a list lacks a variable that a node asks.
func (m model) lacks(k int, vars []int) bool {
	for _, v := range hangs(m.says[k], m.vars) {
		if !slices.Contains(vars, v) {
			return true
		}
	}
	return false
}

// asks is what Asks must answer.
func (m model) asks(k int) ([]int, api.Errno) {
	if e := m.refusal(k, nil); e != api.OK {
		return nil, e
	}
	return hangs(m.says[k], m.vars), api.OK
}

// sat is what Sat must answer.
func (m model) sat(k int, vars []int) (int, api.Errno) {
	if e := m.refusal(k, vars); e != api.OK {
		return 0, e
	}
	if m.lacks(k, vars) {
		return 0, api.ErrArg
	}
	return len(numbersOf(m.says[k], vars)), api.OK
}

// cubes is what Cubes must answer.
func (m model) cubes(k, most int) ([][]int, api.Errno) {
	if most < 0 || most > api.MaxTuples {
		return nil, api.ErrArg
	}
	if e := m.refusal(k, nil); e != api.OK {
		return nil, e
	}
	l := waysOf(m.says[k], m.vars)
	if len(l) > most {
		return nil, api.ErrFull
	}
	return l, api.OK
}

// each is what Each must answer, of a list that is not too long.
func (m model) each(k int, vars []int, most int) ([]int, api.Errno) {
	if most < 0 || most > api.MaxTuples {
		return nil, api.ErrArg
	}
	n, e := m.sat(k, vars)
	if e != api.OK {
		return nil, e
	}
	if n > most {
		return nil, api.ErrFull
	}
	return numbersOf(m.says[k], vars), api.OK
}

// first is what First must answer.
func (m model) first(k int) ([]bool, api.Errno) {
	if e := m.refusal(k, nil); e != api.OK {
		return nil, e
	}
	return firstOf(m.says[k], m.vars)
}

// rows tells whether two lists of rows are the same.
func rows(a, b [][]int) bool {
	return slices.EqualFunc(a, b, slices.Equal[[]int])
}

// asksThis wants Asks to answer this.
func asksThis(t *testing.T, s *node.Store, k int, want []int, f api.Errno) {
	if l, e := count.Asks(s, k); !slices.Equal(l, want) || e != f {
		t.Helper()
		t.Fatalf("Asks(%d): %v, error %d, not %v, error %d", k, l, e, want, f)
	}
}

// satThis wants Sat to answer this.
func satThis(t *testing.T, s *node.Store, k int, vars []int, want int, f api.Errno) {
	if n, e := count.Sat(s, k, vars); n != want || e != f {
		t.Helper()
		t.Fatalf("Sat(%d, %v): %d, error %d, not %d, error %d", k, vars, n, e, want, f)
	}
}

// cubesThis wants Cubes to answer this.
func cubesThis(t *testing.T, s *node.Store, k, most int, want [][]int, f api.Errno) {
	if l, e := count.Cubes(s, k, most); !rows(l, want) || e != f {
		t.Helper()
		t.Fatalf("Cubes(%d, %d): %v, error %d, not %v, error %d", k, most, l, e, want, f)
	}
}

// eachThis wants Each to answer this.
func eachThis(t *testing.T, s *node.Store, k int, vars []int, most int, want []int, f api.Errno) {
	if l, e := count.Each(s, k, vars, most); !slices.Equal(l, want) || e != f {
		t.Helper()
		t.Fatalf("Each(%d, %v, %d): %v, error %d, not %v, error %d", k, vars, most, l, e, want, f)
	}
}

// firstThis wants First to answer this.
func firstThis(t *testing.T, s *node.Store, k int, want []bool, f api.Errno) {
	if l, e := count.First(s, k); !slices.Equal(l, want) || e != f {
		t.Helper()
		t.Fatalf("First(%d): %v, error %d, not %v, error %d", k, l, e, want, f)
	}
}

// holds wants all five calls to answer what they must.
func holds(t *testing.T, s *node.Store, m model, k int, vars []int, most int) {
	t.Helper()
	length, made, sweeps := s.Len(), s.Made(), s.Sweeps()
	l, e := m.asks(k)
	asksThis(t, s, k, l, e)
	n, e := m.sat(k, vars)
	satThis(t, s, k, vars, n, e)
	ways, e := m.cubes(k, most)
	cubesThis(t, s, k, most, ways, e)
	l, e = m.each(k, vars, most)
	eachThis(t, s, k, vars, most, l, e)
	values, e := m.first(k)
	firstThis(t, s, k, values, e)
	if s.Len() != length || s.Made() != made || s.Sweeps() != sweeps {
		t.Fatalf("Len %d, Made %d, Sweeps %d, not %d, %d, %d", s.Len(), s.Made(), s.Sweeps(), length, made, sweeps)
	}
}

// open is a store that must be given.
func open(t *testing.T, vars, budget int) *node.Store {
	t.Helper()
	s, e := node.New(vars, budget)
	if e != api.OK || s == nil {
		t.Fatalf("New(%d, %d): error %d", vars, budget, e)
	}
	return s
}

// mk wants Mk to give a node.
func mk(t *testing.T, s *node.Store, v, low, high int) int {
	k, e := s.Mk(v, low, high)
	if e != api.OK {
		t.Helper()
		t.Fatalf("Mk(%d, %d, %d): error %d", v, low, high, e)
	}
	return k
}

// build is the node that says something of up to six variables.
func build(t *testing.T, s *node.Store, vars int, said uint64) int {
	t.Helper()
	var from func(v, place int) int
	from = func(v, place int) int {
		if v == vars {
			return int(said >> place & 1)
		}
		return mk(t, s, v, from(v+1, place), from(v+1, place|1<<v))
	}
	return from(0, 0)
}

// everything makes all nodes that there may be of so many variables.
func everything(t *testing.T, s *node.Store, vars int) model {
	t.Helper()
	for said := range all(vars) + 1 {
		build(t, s, vars, said)
	}
	return modelOf(t, s, vars, int(all(vars))+1)
}

// modelOf is a store, whose numbers end below a bound, by what Eval tells of its nodes.
func modelOf(t *testing.T, s *node.Store, vars, bound int) model {
	t.Helper()
	m := model{vars, map[int]uint64{}}
	values := make([]bool, vars)
	for k := range bound {
		if _, _, _, e := s.Node(k); e != api.OK {
			continue
		}
		said := uint64(0)
		for place := range 1 << vars {
			for v := range values {
				values[v] = place>>v&1 == 1
			}
			if x, _ := s.Eval(k, values); x {
				said |= 1 << place
			}
		}
		m.says[k] = said
	}
	return m
}

// operations are a store's, that must be given.
func operations(t *testing.T, s *node.Store) *oper.Ops {
	t.Helper()
	o, e := oper.New(s)
	if e != api.OK {
		t.Fatalf("New of a store: error %d", e)
	}
	return o
}

// must is a node that was answered.
func must(k int, e api.Errno) int {
	if e != api.OK {
		panic("an error was answered")
	}
	return k
}

// copied is a copy of what a pointer points to.
func copied[T any](x *T) *T {
	y := *x
	return &y
}

// upTo is the variables below so many.
func upTo(vars int) []int {
	var l []int
	for v := range vars {
		l = append(l, v)
	}
	return l
}

// backFrom is the variables below so many, the last one first.
func backFrom(vars int) []int {
	l := upTo(vars)
	slices.Reverse(l)
	return l
}

// orders is all lists of variables below so many, none twice, in every order.
func orders(vars int) [][]int {
	l := [][]int{nil}
	for i := 0; i < len(l); i++ {
		for v := range vars {
			if !slices.Contains(l[i], v) {
				l = append(l, append(slices.Clone(l[i]), v))
			}
		}
	}
	return l
}

// wrong is numbers that are no node's in a store whose numbers end below a thousand: some end, cut to fewer bits, in those of nodes.
func wrong() []int {
	return []int{math.MinInt, math.MinInt + 1, -1 << 32, -3, -2, -1, 1000, api.MaxBudget, 1 << 31, 1 << 32, 1<<32 + 1, 1<<32 + 2, math.MaxInt - 1, math.MaxInt}
}

// noVariables is numbers that are no variables in a store of so many.
func noVariables(vars int) []int {
	return []int{math.MinInt, math.MinInt + 1, -1 << 32, -256, -2, -1, vars, vars + 1, 256, 257, 1 << 31, 1 << 32, 1<<32 + 1, math.MaxInt - 1, math.MaxInt}
}

// noBounds is numbers that may not be the greatest length of an answer.
func noBounds() []int {
	return []int{math.MinInt, math.MinInt + 1, -1 << 32, -api.MaxTuples, -2, -1, api.MaxTuples + 1, api.MaxTuples + 2, 1 << 20, 1 << 31, 1 << 32, 1<<32 + 5, math.MaxInt - 1, math.MaxInt}
}

// dice is a row of numbers that look thrown, the same ones each time.
func dice(seed uint64) func(n int) int {
	return func(n int) int {
		seed = seed*6364136223846793005 + 1442695040888963407
		return int(seed>>33) % n
	}
}

// throwTruth is what a thrown node may say of so many variables: in some throws it hangs on few of them, or is true of few values.
func throwTruth(throw func(n int) int, vars int) uint64 {
	bits := func() uint64 {
		return uint64(throw(1<<22)) | uint64(throw(1<<22))<<22 | uint64(throw(1<<22))<<44
	}
	said := bits() & all(vars)
	for range throw(3) {
		said &= bits()
	}
	for range throw(4) {
		if vars > 0 {
			said = half(said, vars, throw(vars), throw(2) == 1)
		}
	}
	return said
}

// throwOrder is thrown variables, none twice.
func throwOrder(throw func(n int) int, vars, length int) []int {
	l := upTo(vars)
	for i := range length {
		j := i + throw(vars-i)
		l[i], l[j] = l[j], l[i]
	}
	return l[:length]
}

// Cn1, Cn2: the chapter's example: x0 and x2, of three variables: Sat 2, one cube: 1 2 1.
func TestExample(t *testing.T) {
	s := open(t, 3, 10)
	k := mk(t, s, 0, 0, mk(t, s, 2, 0, 1))
	asksThis(t, s, k, []int{0, 2}, api.OK)
	satThis(t, s, k, []int{0, 1, 2}, 2, api.OK)
	satThis(t, s, k, []int{2, 0}, 1, api.OK)
	cubesThis(t, s, k, 1, [][]int{{1, 2, 1}}, api.OK)
	eachThis(t, s, k, []int{0, 1, 2}, 2, []int{5, 7}, api.OK)
	eachThis(t, s, k, []int{1, 2, 0}, 2, []int{6, 7}, api.OK)
	firstThis(t, s, k, []bool{true, false, true}, api.OK)
}

// Cn1, Cn2: all nodes of three variables by all five calls, with all lists, in every order, of which some lack what a node asks, and with all bounds: in a store that is full.
func TestAllNodes(t *testing.T) {
	s := open(t, 3, 256)
	m := everything(t, s, 3)
	for k := range 256 {
		for _, l := range orders(3) {
			for most := -1; most < 10; most++ {
				holds(t, s, m, k, l, most)
			}
		}
	}
}

// Cn1, Cn2: thrown nodes of up to six variables, in stores of that many, by thrown lists, in every order, and thrown bounds.
func TestThrownNodes(t *testing.T) {
	throw := dice(1)
	for range 6000 {
		vars := throw(7)
		s := open(t, vars, 200)
		k := build(t, s, vars, throwTruth(throw, vars))
		m := modelOf(t, s, vars, s.Len())
		holds(t, s, m, k, throwOrder(throw, vars, vars), api.MaxTuples)
		holds(t, s, m, k, throwOrder(throw, vars, throw(vars+1)), throw(70))
		n, _ := m.sat(k, upTo(vars))
		holds(t, s, m, k, throwOrder(throw, vars, vars), n)
		holds(t, s, m, k, throwOrder(throw, vars, vars), n-1)
		holds(t, s, m, k, hangs(m.says[k], vars), n)
		ways := len(waysOf(m.says[k], vars))
		holds(t, s, m, k, backFrom(vars), ways)
		holds(t, s, m, k, backFrom(vars), ways-1)
	}
}

// Cn1: lists lack just one variable: ErrArg, if the node asks it, wherever that stands in the node.
func TestListsThatLack(t *testing.T) {
	throw := dice(2)
	for range 300 {
		s := open(t, 6, 200)
		k := build(t, s, 6, throwTruth(throw, 6))
		m := modelOf(t, s, 6, s.Len())
		for v := range 6 {
			l := slices.DeleteFunc(throwOrder(throw, 6, 6), func(w int) bool { return v == w })
			holds(t, s, m, k, l, 64)
		}
	}
	s := open(t, 200, 300)
	k := 1
	for v := 199; v >= 0; v -= 2 {
		k = mk(t, s, v, 0, k)
	}
	for v := range 200 {
		l := slices.DeleteFunc(backFrom(200), func(w int) bool { return v == w })
		if v%2 == 1 {
			satThis(t, s, k, l, 0, api.ErrArg)
		} else {
			satThis(t, s, k, l, api.MaxSat, api.OK)
		}
	}
}

// Cn1, Cn2: 0 and 1, in stores with room for nothing else, and without a variable: all calls, and lists of all lengths.
func TestConstants(t *testing.T) {
	for _, vars := range []int{0, 1, 3, 61, 62, 63, api.MaxVars} {
		s := open(t, vars, 2)
		way := slices.Repeat([]int{2}, vars)
		asksThis(t, s, 0, nil, api.OK)
		asksThis(t, s, 1, nil, api.OK)
		cubesThis(t, s, 0, 0, nil, api.OK)
		cubesThis(t, s, 0, api.MaxTuples, nil, api.OK)
		cubesThis(t, s, 1, 0, nil, api.ErrFull)
		cubesThis(t, s, 1, 1, [][]int{way}, api.OK)
		cubesThis(t, s, 1, api.MaxTuples, [][]int{way}, api.OK)
		firstThis(t, s, 0, nil, api.ErrNone)
		firstThis(t, s, 1, make([]bool, vars), api.OK)
		for length := range vars + 1 {
			for _, l := range [][]int{upTo(vars)[:length], backFrom(vars)[:length]} {
				want := api.MaxSat
				if length < 62 {
					want = 1 << length
				}
				satThis(t, s, 0, l, 0, api.OK)
				satThis(t, s, 1, l, want, api.OK)
			}
		}
	}
}

// Cn2: Each of 0 and 1, with lists of all lengths.
func TestEachOfConstants(t *testing.T) {
	s := open(t, 80, 2)
	for length := range 80 {
		l := backFrom(80)[:length]
		most, e, f := 0, api.OK, api.OK
		switch {
		case length > api.MaxWidth:
			e, f = api.ErrArg, api.ErrArg
		case length <= 14:
			most = 1 << length
		default:
			most, f = api.MaxTuples, api.ErrFull
		}
		eachThis(t, s, 0, l, most, nil, e)
		eachThis(t, s, 0, l, 0, nil, e)
		if f == api.OK {
			eachThis(t, s, 1, l, most, upTo(most), f)
			eachThis(t, s, 1, l, most-1, nil, api.ErrFull)
		} else {
			eachThis(t, s, 1, l, most, nil, f)
		}
	}
}

// Cn1, Cn2: the empty list and nil are the same: of 0 and 1 there is one value of no variables; a node asks one that is not in it.
func TestEmptyLists(t *testing.T) {
	for _, vars := range []int{0, 1, 3} {
		s := open(t, vars, 10)
		for _, l := range [][]int{nil, {}, make([]int, 0, 5)} {
			satThis(t, s, 0, l, 0, api.OK)
			satThis(t, s, 1, l, 1, api.OK)
			eachThis(t, s, 0, l, 0, nil, api.OK)
			eachThis(t, s, 1, l, 0, nil, api.ErrFull)
			eachThis(t, s, 1, l, 1, []int{0}, api.OK)
			satThis(t, s, 2, l, 0, api.ErrNone)
			eachThis(t, s, 2, l, 1, nil, api.ErrNone)
		}
		if vars > 0 {
			k := mk(t, s, vars-1, 0, 1)
			for _, l := range [][]int{nil, {}} {
				satThis(t, s, k, l, 0, api.ErrArg)
				eachThis(t, s, k, l, 1, nil, api.ErrArg)
			}
		}
	}
}

// refusesList wants ErrArg where a list is handed in, whatever the bound, beside nodes and beside numbers that are none.
func refusesList(t *testing.T, s *node.Store, l []int, nodes ...int) {
	t.Helper()
	for _, k := range nodes {
		satThis(t, s, k, l, 0, api.ErrArg)
		for _, most := range []int{-1, 0, 1, api.MaxTuples, api.MaxTuples + 1} {
			eachThis(t, s, k, l, most, nil, api.ErrArg)
		}
	}
}

// Cn1, Cn2: variables that are none of the store, in each place of lists that else may be.
func TestVariablesThatAreNone(t *testing.T) {
	for _, vars := range []int{1, 2, 5, 62, 63, 255, 256} {
		s := open(t, vars, 500)
		k := mk(t, s, 0, 0, 1)
		for _, none := range noVariables(vars) {
			for _, length := range []int{1, min(vars, 2), vars / 2, min(vars, 62), vars} {
				for place := range length {
					l := upTo(vars)[:length]
					l[place] = none
					refusesList(t, s, l, k, 1, -1)
				}
			}
		}
		refusesList(t, s, append(upTo(vars), vars), 0, 1, k, 3, 77)
	}
	s := open(t, 0, 10)
	for _, none := range noVariables(0) {
		refusesList(t, s, []int{none}, 0, 1, 2, -1)
	}
}

// Cn1: the last variable that there is may be given.
func TestTheLastVariable(t *testing.T) {
	for _, vars := range []int{1, 2, 62, 63, 255, 256} {
		s := open(t, vars, 10)
		k, last := mk(t, s, vars-1, 0, 1), vars-1
		first := make([]bool, vars)
		first[last] = true
		way := slices.Repeat([]int{2}, vars)
		way[last] = 1
		asksThis(t, s, k, []int{last}, api.OK)
		satThis(t, s, k, []int{last}, 1, api.OK)
		eachThis(t, s, k, []int{last}, 1, []int{1}, api.OK)
		cubesThis(t, s, k, 1, [][]int{way}, api.OK)
		firstThis(t, s, k, first, api.OK)
	}
}

// Cn1, Cn2: variables that are twice in a list, in each two places, beside nodes and beside numbers that are none.
func TestVariablesTwice(t *testing.T) {
	s := open(t, 70, 500)
	k := mk(t, s, 1, 0, 1)
	for _, length := range []int{2, 3, 7, 61, 62, 63} {
		for i := range length {
			for j := range i {
				l := upTo(length)
				l[i] = l[j]
				refusesList(t, s, l, k, 0, -1)
				l = backFrom(length)
				l[j] = l[i]
				refusesList(t, s, l, 1, 1000)
			}
		}
	}
	for _, l := range [][]int{{0, 0}, {1, 1}, {1, 1, 1}, {1, 0, 1}, {0, 1, 0}, {1, 0, 0, 1}} {
		refusesList(t, s, l, 0, 1, k, 3)
	}
}

// Cn1, R1: lists of far more variables than there are: one stands twice there, or is none.
func TestLongLists(t *testing.T) {
	for _, vars := range []int{0, 1, 3, 256} {
		s := open(t, vars, 500)
		for _, length := range []int{257, 512, 1 << 16, 1 << 20} {
			l := make([]int, length)
			refusesList(t, s, l, 0, 1, 2, -1)
			for i := range l {
				l[i] = i
			}
			refusesList(t, s, l, 0, 1, 2, -1)
			for i := range l {
				l[i] = i % max(vars, 1)
			}
			refusesList(t, s, l, 0, 1, 2, -1)
		}
	}
}

// Cn1, Cn2: numbers that are no node's: ErrNone, but ErrArg, if a list or a bound may not be, too; that a list lacks a variable is told of nodes alone, and ErrFull behind all.
func TestNoNodes(t *testing.T) {
	s := open(t, 70, 500)
	k := mk(t, s, 2, mk(t, s, 3, 1, 0), 1)
	for _, n := range append(wrong(), 4, 5, 499, 500, 501) {
		asksThis(t, s, n, nil, api.ErrNone)
		firstThis(t, s, n, nil, api.ErrNone)
		for _, most := range []int{0, 1, 2, api.MaxTuples} {
			cubesThis(t, s, n, most, nil, api.ErrNone)
			for _, l := range [][]int{nil, {}, {0}, {2}, {3, 2}, upTo(62), backFrom(62)} {
				satThis(t, s, n, l, 0, api.ErrNone)
				eachThis(t, s, n, l, most, nil, api.ErrNone)
			}
			satThis(t, s, n, upTo(63), 0, api.ErrNone)
			eachThis(t, s, n, upTo(63), most, nil, api.ErrArg)
			eachThis(t, s, n, upTo(70), most, nil, api.ErrArg)
		}
		for _, most := range noBounds() {
			cubesThis(t, s, n, most, nil, api.ErrArg)
			eachThis(t, s, n, []int{2, 3}, most, nil, api.ErrArg)
		}
		refusesList(t, s, []int{2, 70, 3}, n)
		refusesList(t, s, []int{2, 3, 2}, n)
	}
	for _, l := range [][]int{nil, {2}, {3}, {0, 1, 3, 4}} {
		satThis(t, s, k, l, 0, api.ErrArg)
		eachThis(t, s, k, l, 0, nil, api.ErrArg)
		eachThis(t, s, k, l, 100, nil, api.ErrArg)
	}
	eachThis(t, s, k, []int{2, 3}, 2, nil, api.ErrFull)
	eachThis(t, s, k, []int{2, 3}, 3, []int{0, 1, 3}, api.OK)
	eachThis(t, s, k, []int{3, 2}, 3, []int{0, 2, 3}, api.OK)
}

// Cn2: bounds that may not be, beside nodes of which there is nothing to tell, and beside ones of which there is too much.
func TestBoundsThatMayNotBe(t *testing.T) {
	s := open(t, 70, 10)
	k := mk(t, s, 0, 0, 1)
	for _, most := range noBounds() {
		for _, n := range []int{0, 1, k} {
			cubesThis(t, s, n, most, nil, api.ErrArg)
			for _, l := range [][]int{nil, {0}, upTo(62), upTo(63), {1}} {
				eachThis(t, s, n, l, most, nil, api.ErrArg)
			}
		}
	}
}

// R1: stores that are none: ErrArg ahead of all else.
func TestNoStore(t *testing.T) {
	s := open(t, 3, 10)
	k := mk(t, s, 0, 0, 1)
	for _, none := range []*node.Store{nil, {}, new(node.Store), copied(s)} {
		for _, n := range []int{0, 1, k, 3, -1, math.MaxInt, math.MinInt} {
			asksThis(t, none, n, nil, api.ErrArg)
			firstThis(t, none, n, nil, api.ErrArg)
			for _, most := range []int{-1, 0, 1, 8, api.MaxTuples, api.MaxTuples + 1} {
				cubesThis(t, none, n, most, nil, api.ErrArg)
				for _, l := range [][]int{nil, {}, {0}, {0, 1, 2}, {0, 0}, {-1}, {3}, upTo(63)} {
					satThis(t, none, n, l, 0, api.ErrArg)
					eachThis(t, none, n, l, most, nil, api.ErrArg)
				}
			}
		}
	}
	satThis(t, s, k, []int{0}, 1, api.OK)
}

// below is the node that says whether a number is below n, the variables below so many being its bits, the highest first.
func below(t *testing.T, s *node.Store, vars int, n *big.Int) int {
	t.Helper()
	if n.BitLen() > vars {
		return 1
	}
	k := 0
	for v := vars - 1; v >= 0; v-- {
		if n.Bit(vars-1-v) == 1 {
			k = mk(t, s, v, 1, k)
		} else {
			k = mk(t, s, v, k, 0)
		}
	}
	return k
}

// counted is a count of layer 1: at most the greatest one.
func counted(n *big.Int) int {
	if n.BitLen() > 62 {
		return api.MaxSat
	}
	return int(n.Int64())
}

// Cn1: counts at MaxSat, just below it, and beyond: of 61 to 256 variables.
func TestGreatestCounts(t *testing.T) {
	one := big.NewInt(1)
	for _, vars := range []int{61, 62, 63, 64, 65, 127, 128, 129, 255, 256} {
		s := open(t, vars, 20000)
		var l []*big.Int
		for _, bit := range []int{0, 1, 31, 32, 33, 60, 61, 62, 63, 64, 65, 126, 127, 128, 254, 255, 256} {
			power := new(big.Int).Lsh(one, uint(bit))
			for more := int64(-3); more < 4; more++ {
				l = append(l, new(big.Int).Add(power, big.NewInt(more)))
			}
			l = append(l, new(big.Int).Add(power, new(big.Int).Rsh(power, 1)))
		}
		room := new(big.Int).Lsh(one, uint(vars))
		for _, n := range l {
			if n.Sign() < 0 || n.Cmp(room) > 0 {
				continue
			}
			k := below(t, s, vars, n)
			satThis(t, s, k, upTo(vars), counted(n), api.OK)
			satThis(t, s, k, backFrom(vars), counted(n), api.OK)
			s.Sweep()
		}
	}
}

// Cn1: variables that a node does not ask: each lets the count be twice as much, wherever it stands, up to MaxSat.
func TestVariablesThatAreNotAsked(t *testing.T) {
	throw := dice(3)
	for range 2000 {
		s := open(t, api.MaxVars, 200)
		asked := throwOrder(throw, api.MaxVars, 5)
		slices.Sort(asked)
		said := throwTruth(throw, 5)
		k := spread(t, s, asked, said)
		l := slices.Clone(asked)
		for _, v := range throwOrder(throw, api.MaxVars, throw(api.MaxVars)) {
			if !slices.Contains(asked, v) && len(l) < 50+throw(30) {
				l = append(l, v)
			}
		}
		want := big.NewInt(int64(len(numbersOf(said, upTo(5)))))
		want.Lsh(want, uint(len(l)-5))
		slices.Reverse(l)
		satThis(t, s, k, l, counted(want), api.OK)
	}
}

// spread is the node that says of five variables, that rise, what is said of the first five ones.
func spread(t *testing.T, s *node.Store, vars []int, said uint64) int {
	t.Helper()
	var from func(i, place int) int
	from = func(i, place int) int {
		if i == len(vars) {
			return int(said >> place & 1)
		}
		return mk(t, s, vars[i], from(i+1, place), from(i+1, place|1<<i))
	}
	return from(0, 0)
}

// part is of each node for which part of all values it says true, reckoned by fractions.
func part(s *node.Store, k int, found map[int]*big.Rat) *big.Rat {
	if k < 2 {
		return big.NewRat(int64(k), 1)
	}
	if found[k] == nil {
		_, low, high, _ := s.Node(k)
		sum := new(big.Rat).Add(part(s, low, found), part(s, high, found))
		found[k] = sum.Mul(sum, big.NewRat(1, 2))
	}
	return found[k]
}

// thrown is a thrown node of many variables: of each variable there are so many nodes.
func thrown(t *testing.T, s *node.Store, vars, width int, throw func(n int) int) int {
	t.Helper()
	l := []int{0, 1}
	for v := vars - 1; v >= 0; v-- {
		last := l[max(0, len(l)-2*width):]
		if throw(4) == 0 {
			last = l
		}
		var next []int
		for range width {
			next = append(next, mk(t, s, v, last[throw(len(last))], last[throw(len(last))]))
		}
		l = append(l, next...)
	}
	return l[len(l)-1]
}

// reached is the variables that the nodes ask which one is of, rising.
func reached(s *node.Store, k int) []int {
	seen := map[int]bool{0: true, 1: true}
	asked := make([]bool, s.Vars())
	for ahead := []int{k}; len(ahead) > 0; {
		n := ahead[len(ahead)-1]
		ahead = ahead[:len(ahead)-1]
		if !seen[n] {
			seen[n] = true
			v, low, high, _ := s.Node(n)
			asked[v] = true
			ahead = append(ahead, low, high)
		}
	}
	return slices.DeleteFunc(upTo(s.Vars()), func(v int) bool { return !asked[v] })
}

// Cn1: thrown nodes of many variables: counts, held against fractions, and the variables that they ask.
func TestThrownWideNodes(t *testing.T) {
	throw := dice(4)
	for _, vars := range []int{8, 20, 61, 62, 63, 64, 100, 256} {
		for range 60 {
			s := open(t, vars, 3000)
			k := thrown(t, s, vars, 4, throw)
			n := new(big.Rat).Mul(part(s, k, map[int]*big.Rat{}), new(big.Rat).SetInt(new(big.Int).Lsh(big.NewInt(1), uint(vars))))
			if !n.IsInt() {
				t.Fatal("a count that is none")
			}
			satThis(t, s, k, throwOrder(throw, vars, vars), counted(n.Num()), api.OK)
			l := reached(s, k)
			asksThis(t, s, k, l, api.OK)
			n.Quo(n, new(big.Rat).SetInt(new(big.Int).Lsh(big.NewInt(1), uint(vars-len(l)))))
			slices.Reverse(l)
			satThis(t, s, k, l, counted(n.Num()), api.OK)
		}
	}
}

// odd is the node that says whether so many variables, from the first one on, that stand apart by a step, are true by an odd number.
func odd(t *testing.T, s *node.Store, vars, step int) int {
	t.Helper()
	even, odd := 0, 1
	for i := vars - 1; i >= 0; i-- {
		even, odd = mk(t, s, 1+i*step, even, odd), mk(t, s, 1+i*step, odd, even)
	}
	return even
}

// Cn2: as many cubes as there may be, one too few and one too many asked for, and one too many there.
func TestMostCubes(t *testing.T) {
	for _, step := range []int{1, 13} {
		s := open(t, api.MaxVars, 200)
		k := odd(t, s, 15, step)
		more := mk(t, s, 0, k, 1)
		l, e := count.Cubes(s, k, api.MaxTuples)
		if len(l) != api.MaxTuples || e != api.OK {
			t.Fatalf("Cubes: %d, error %d", len(l), e)
		}
		for i, way := range l {
			// The ways stand as the numbers of their first fourteen variables, the first one the highest bit.
			want, ones := slices.Repeat([]int{2}, api.MaxVars), 0
			for bit := range 14 {
				value := i >> (13 - bit) & 1
				ones += value
				want[1+bit*step] = value
			}
			want[1+14*step] = 1 - ones%2
			if !slices.Equal(way, want) {
				t.Fatalf("Cubes: the way %d is %v", i, way)
			}
		}
		cubesThis(t, s, k, api.MaxTuples-1, nil, api.ErrFull)
		cubesThis(t, s, k, 1, nil, api.ErrFull)
		cubesThis(t, s, k, 0, nil, api.ErrFull)
		cubesThis(t, s, more, api.MaxTuples, nil, api.ErrFull)
		cubesThis(t, s, more, api.MaxTuples+1, nil, api.ErrArg)
		cubesThis(t, s, odd(t, s, 16, step), api.MaxTuples, nil, api.ErrFull)
	}
}

// Cn2: as many numbers as there may be, one too few and one too many asked for, and one too many there; of 14 to 62 variables, in thrown orders.
func TestMostNumbers(t *testing.T) {
	throw := dice(5)
	for _, vars := range []int{14, 15, 30, 61, 62} {
		for _, n := range []int{1, 2, 1000, api.MaxTuples - 1, api.MaxTuples, api.MaxTuples + 1} {
			s := open(t, vars, 200)
			k := below(t, s, vars, big.NewInt(int64(n)))
			for _, l := range [][]int{backFrom(vars), upTo(vars), throwOrder(throw, vars, vars)} {
				if n > api.MaxTuples {
					want, e := []int(nil), api.ErrFull
					if vars == 14 {
						want, e = upTo(1<<14), api.OK // of fourteen variables there are no more
					}
					eachThis(t, s, k, l, api.MaxTuples, want, e)
					eachThis(t, s, k, l, n, nil, api.ErrArg)
					continue
				}
				want := turned(n, vars, l)
				eachThis(t, s, k, l, n, want, api.OK)
				eachThis(t, s, k, l, api.MaxTuples, want, api.OK)
				eachThis(t, s, k, l, n-1, nil, api.ErrFull)
				eachThis(t, s, k, l, 0, nil, api.ErrFull)
			}
		}
	}
}

// turned is the numbers that those below n are, if the bits, that stood the highest first, stand as the list has them, rising.
func turned(n, vars int, l []int) []int {
	var out []int
	for old := range n {
		number := 0
		for i, v := range l {
			number |= old >> (vars - 1 - v) & 1 << i
		}
		out = append(out, number)
	}
	slices.Sort(out)
	return out
}

// Cn2: lists of 62 variables and of 63, and of more, though a node says true of few values, or of none.
func TestListsOfSixtyTwo(t *testing.T) {
	s := open(t, api.MaxVars, 600)
	cube := 1
	for v := 61; v >= 0; v-- {
		cube = mk(t, s, v, 0, cube)
	}
	last := mk(t, s, 62, 0, 1)
	eachThis(t, s, cube, upTo(62), 1, []int{api.MaxSat}, api.OK)
	eachThis(t, s, cube, backFrom(62), 1, []int{api.MaxSat}, api.OK)
	eachThis(t, s, 0, upTo(62), 0, nil, api.OK)
	eachThis(t, s, 1, upTo(62), api.MaxTuples, nil, api.ErrFull)
	eachThis(t, s, last, upTo(62), 1, nil, api.ErrArg)
	satThis(t, s, cube, upTo(61), 0, api.ErrArg)
	satThis(t, s, cube, upTo(62), 1, api.OK)
	satThis(t, s, cube, upTo(63), 2, api.OK)
	satThis(t, s, cube, upTo(123), 1<<61, api.OK)
	satThis(t, s, cube, upTo(124), api.MaxSat, api.OK)
	satThis(t, s, cube, backFrom(256), api.MaxSat, api.OK)
	for _, length := range []int{63, 64, 100, 256} {
		for _, k := range []int{0, 1, cube, last, 500} {
			eachThis(t, s, k, upTo(length), api.MaxTuples, nil, api.ErrArg)
			eachThis(t, s, k, upTo(length), 0, nil, api.ErrArg)
		}
	}
}

// remainder is the node that says whether the numbers of the variables that are true, from 1 on, come to rest modulo m.
func remainder(t *testing.T, s *node.Store, vars, m, rest int) int {
	t.Helper()
	now := make([]int, m)
	now[rest] = 1
	for v := vars - 1; v >= 0; v-- {
		ahead := make([]int, m)
		for i := range m {
			ahead[i] = mk(t, s, v, now[i], now[(i+v+1)%m])
		}
		now = ahead
	}
	return now[0]
}

// remaining is of how many values such a node says true.
func remaining(vars, m, rest int) *big.Int {
	l := make([]*big.Int, m)
	for i := range l {
		l[i] = new(big.Int)
	}
	l[0].SetInt64(1)
	for v := range vars {
		next := make([]*big.Int, m)
		for i := range next {
			next[i] = new(big.Int).Add(l[i], l[(i+(m-1)*(v+1))%m])
		}
		l = next
	}
	return l[rest]
}

// Cn1, Cn2, R1: nodes with far too many ways through them to be gone one by one.
func TestManyWays(t *testing.T) {
	for _, vars := range []int{40, 59, 60, 61, 62, 63, 64, 65, 66, 200, 256} {
		s := open(t, vars, api.MaxBudget)
		for _, m := range []int{2, 3, 7, 12, 61} {
			for _, rest := range []int{0, 1, m - 1} {
				k := remainder(t, s, vars, m, rest)
				l := reached(s, k)
				asksThis(t, s, k, l, api.OK)
				satThis(t, s, k, backFrom(vars), counted(remaining(vars, m, rest)), api.OK)
				cubesThis(t, s, k, api.MaxTuples, nil, api.ErrFull)
				if vars <= 62 {
					eachThis(t, s, k, upTo(vars), api.MaxTuples, nil, api.ErrFull)
				}
				// It lacks the first variable that is asked, or is too long.
				eachThis(t, s, k, l[1:], api.MaxTuples, nil, api.ErrArg)
				values, e := count.First(s, k)
				if e != api.OK || len(values) != vars {
					t.Fatalf("First: %v, error %d", values, e)
				}
				firstIsFirst(t, s, k, values)
			}
		}
	}
}

// ahead is the node that says of which values it is that they stand ahead of some.
func ahead(t *testing.T, s *node.Store, values []bool) int {
	t.Helper()
	k := 0
	for v := len(values) - 1; v >= 0; v-- {
		if values[v] {
			k = mk(t, s, v, 1, k)
		} else {
			k = mk(t, s, v, k, 0)
		}
	}
	return k
}

// firstIsFirst wants a node to say true of values, and of none ahead of these.
func firstIsFirst(t *testing.T, s *node.Store, k int, values []bool) {
	t.Helper()
	if x, e := s.Eval(k, values); !x || e != api.OK {
		t.Fatalf("First(%d): %v: the node says %v, error %d", k, values, x, e)
	}
	if n := must(operations(t, s).And(k, ahead(t, s, values))); n != 0 {
		t.Fatalf("First(%d): %v: there are some ahead: %d", k, values, n)
	}
}

// wayOf is the node that says of which values it is that a way is gone with them.
func wayOf(t *testing.T, s *node.Store, way []int) int {
	t.Helper()
	k := 1
	for v := len(way) - 1; v >= 0; v-- {
		switch way[v] {
		case 0:
			k = mk(t, s, v, k, 0)
		case 1:
			k = mk(t, s, v, 0, k)
		}
	}
	return k
}

// laws wants what follows of all nodes.
func laws(t *testing.T, s *node.Store, k int, throw func(n int) int) {
	t.Helper()
	o, vars := operations(t, s), s.Vars()
	l := throwOrder(throw, vars, vars)
	n, e := count.Sat(s, k, l)
	not, f := count.Sat(s, must(o.Not(k)), l)
	if n+not != 1<<vars || e != api.OK || f != api.OK {
		t.Fatalf("Sat(%d) %d, of its Not %d: not %d together", k, n, not, 1<<vars)
	}
	ways, e := count.Cubes(s, k, api.MaxTuples)
	if e != api.OK {
		t.Fatalf("Cubes(%d): error %d", k, e)
	}
	together, values := 0, 0
	for _, way := range ways {
		x := wayOf(t, s, way)
		if both := must(o.And(together, x)); both != 0 {
			t.Fatalf("Cubes(%d): %v is not apart from those ahead of it", k, way)
		}
		together = must(o.Or(together, x))
		free := 0
		for _, value := range way {
			free += value / 2
		}
		values += 1 << free
	}
	if together != k || values != n {
		t.Fatalf("Cubes(%d) are together %d, of %d values, not %d", k, together, values, n)
	}
	first, e := count.First(s, k)
	if k == 0 {
		firstThis(t, s, k, nil, api.ErrNone)
		return
	}
	if e != api.OK {
		t.Fatalf("First(%d): error %d", k, e)
	}
	firstIsFirst(t, s, k, first)
}

// eachIsSat wants the numbers that Each tells to be those of which a node says true: as many as Sat counts, rising, each true.
func eachIsSat(t *testing.T, s *node.Store, k int, throw func(n int) int) {
	t.Helper()
	l := throwOrder(throw, s.Vars(), s.Vars())
	n, _ := count.Sat(s, k, l)
	numbers, e := count.Each(s, k, l, n)
	if len(numbers) != n || e != api.OK {
		t.Fatalf("Each(%d): %d, error %d, not %d", k, len(numbers), e, n)
	}
	values := make([]bool, s.Vars())
	for i, number := range numbers {
		for bit, v := range l {
			values[v] = number>>bit&1 == 1
		}
		if x, _ := s.Eval(k, values); !x || i > 0 && numbers[i-1] >= number {
			t.Fatalf("Each(%d, %v): %d, the node says %v", k, l, number, x)
		}
	}
}

// Cn3: Sat of a node and that of its Not are together all; the cubes are apart, and together the node; the first one is one, and none is ahead of it.
func TestLaws(t *testing.T) {
	throw := dice(6)
	for _, vars := range []int{1, 2, 5, 8, 12, 13} {
		for range 80 {
			s := open(t, vars, api.MaxBudget)
			k := thrown(t, s, vars, 3, throw)
			for _, n := range []int{0, 1, k, must(operations(t, s).Not(k))} {
				laws(t, s, n, throw)
				eachIsSat(t, s, n, throw)
			}
		}
	}
}

// Cn1, Cn2, R4: what is asked behind a sweep is what there is then: numbers that are no node's any more, and those that are given again to other nodes.
func TestSweeps(t *testing.T) {
	const vars, bound = 4, 60
	throw := dice(7)
	for range 60 {
		s := open(t, vars, bound)
		for turn := range 12 {
			if turn%2 == 1 {
				s.Sweep()
			}
			for range 4 * (1 - turn%2) {
				k := build(t, s, vars, throwTruth(throw, vars))
				if throw(3) == 0 {
					s.Pin(k)
				}
			}
			m := modelOf(t, s, vars, bound)
			l, most := throwOrder(throw, vars, vars-throw(4)/3), throw(18)
			for k := range bound {
				holds(t, s, m, k, l, most)
			}
			if s.Len() > bound/2 {
				s = open(t, vars, bound)
			}
		}
	}
}

// Cn1, Cn2: a node with a pin has the same answers behind a sweep; one that was swept away is none; its number, given again, is another one.
func TestBehindASweep(t *testing.T) {
	s := open(t, 3, 100)
	stays := mk(t, s, 1, 0, 1)
	gone := mk(t, s, 0, stays, 0)
	s.Pin(stays)
	for range 2 {
		asksThis(t, s, stays, []int{1}, api.OK)
		satThis(t, s, stays, []int{2, 1, 0}, 4, api.OK)
		cubesThis(t, s, stays, 1, [][]int{{2, 1, 2}}, api.OK)
		eachThis(t, s, stays, []int{1, 2}, 2, []int{1, 3}, api.OK)
		firstThis(t, s, stays, []bool{false, true, false}, api.OK)
		s.Sweep()
	}
	asksThis(t, s, gone, nil, api.ErrNone)
	satThis(t, s, gone, []int{0, 1}, 0, api.ErrNone)
	cubesThis(t, s, gone, 1, nil, api.ErrNone)
	eachThis(t, s, gone, []int{0, 1}, 1, nil, api.ErrNone)
	firstThis(t, s, gone, nil, api.ErrNone)
	if again := mk(t, s, 2, 1, 0); again != gone {
		t.Fatalf("Mk: %d, not %d", again, gone)
	}
	asksThis(t, s, gone, []int{2}, api.OK)
	satThis(t, s, gone, []int{0, 1}, 0, api.ErrArg)
	satThis(t, s, gone, []int{2, 0}, 2, api.OK)
	cubesThis(t, s, gone, 1, [][]int{{2, 2, 0}}, api.OK)
	eachThis(t, s, gone, []int{2, 0}, 2, []int{0, 2}, api.OK)
	firstThis(t, s, gone, []bool{false, false, false}, api.OK)
}

// spoiled is a number, or in some throws one of those that are wrong.
func spoiled(throw func(n int) int, n int, wrong []int) int {
	if throw(8) == 0 {
		return wrong[throw(len(wrong))]
	}
	return n
}

// play asks all that may be asked of thrown numbers, lists and bounds, of which some may not be.
func play(t *testing.T, s *node.Store, m model, throw func(n int) int) {
	t.Helper()
	k := spoiled(throw, throw(s.Len()+1), wrong())
	most := spoiled(throw, throw(20), noBounds())
	l := throwOrder(throw, m.vars, throw(m.vars+1))
	if throw(2) == 0 {
		l = throwOrder(throw, m.vars, m.vars)
	}
	for i := range l {
		l[i] = spoiled(throw, l[i], noVariables(m.vars))
	}
	if len(l) > 1 && throw(8) == 0 {
		l[throw(len(l))] = l[throw(len(l))]
	}
	holds(t, s, m, k, l, most)
}

// Cn1, Cn2, R2: thrown calls, of which one thing or several may not be: the error that comes first.
func TestThrownCalls(t *testing.T) {
	throw := dice(8)
	for _, vars := range []int{0, 1, 2, 3, 4, 5} {
		for range 20 {
			s := open(t, vars, 500)
			for range 4 {
				build(t, s, vars, throwTruth(throw, vars))
			}
			m := modelOf(t, s, vars, s.Len())
			for range 500 {
				play(t, s, m, throw)
			}
		}
	}
}

// R3: lists are not changed, nor is the room behind their ends, and that is not read.
func TestListsStay(t *testing.T) {
	const vars = 5
	throw := dice(9)
	s := open(t, vars, 2000)
	for range 3000 {
		k := build(t, s, vars, throwTruth(throw, vars))
		room := append(throwOrder(throw, vars, vars), 0, 1, -7)
		was := slices.Clone(room)
		length := throw(vars + 1)
		l, tight := room[:length], slices.Clip(slices.Clone(room[:length]))
		n, e := count.Sat(s, k, l)
		satThis(t, s, k, tight, n, e)
		numbers, e := count.Each(s, k, l, 32)
		eachThis(t, s, k, tight, 32, numbers, e)
		// What is written into an answer, or behind its end, must not be seen in the list.
		scribble(numbers)
		if !slices.Equal(room, was) {
			t.Fatalf("the list is changed: %v, not %v", room, was)
		}
		s.Sweep()
	}
}

// scribble writes over a list, and over the room behind its end.
func scribble(l []int) {
	l = l[:cap(l)]
	for i := range l {
		l[i] = -99
	}
}

// R3: an answer's lists are new memory: what is written into one is seen in no other one, nor in what is answered later.
func TestAnswersAreNew(t *testing.T) {
	throw := dice(10)
	for range 500 {
		vars := 1 + throw(6)
		s := open(t, vars, 200)
		k := build(t, s, vars, throwTruth(throw, vars))
		l := upTo(vars)
		asked, e := count.Asks(s, k)
		other, _ := count.Asks(s, k)
		want := slices.Clone(asked)
		scribble(asked)
		if !slices.Equal(other, want) {
			t.Fatalf("Asks(%d): what was answered is now %v, not %v", k, other, want)
		}
		asksThis(t, s, k, want, e)
		numbers, e := count.Each(s, k, l, 64)
		want = slices.Clone(numbers)
		scribble(numbers)
		eachThis(t, s, k, l, 64, want, e)
		values, e := count.First(s, k)
		first := slices.Clone(values)
		for i := range values {
			values[i] = !values[i]
		}
		firstThis(t, s, k, first, e)
		cubesAreNew(t, s, k)
	}
}

// cubesAreNew wants each row of Cubes to be a list of its own, and none to be seen in a later answer.
func cubesAreNew(t *testing.T, s *node.Store, k int) {
	t.Helper()
	ways, e := count.Cubes(s, k, 64)
	want := make([][]int, len(ways))
	for i := range ways {
		want[i] = slices.Clone(ways[i])
	}
	for i := range ways {
		if !slices.Equal(ways[i], want[i]) {
			t.Fatalf("Cubes(%d): the way %d is now %v, not %v", k, i, ways[i], want[i])
		}
		scribble(ways[i])
	}
	cubesThis(t, s, k, 64, want, e)
}

// R4: the same calls answer the same, whatever is asked of other stores between, and stores have nothing together.
func TestTheirOwn(t *testing.T) {
	const vars = 4
	throw := dice(11)
	for range 60 {
		s, r := open(t, vars, 200), open(t, vars, 200)
		for range 3 {
			build(t, s, vars, throwTruth(throw, vars))
			build(t, r, vars, throwTruth(throw, vars))
		}
		m, n := modelOf(t, s, vars, s.Len()), modelOf(t, r, vars, r.Len())
		l := throwOrder(throw, vars, vars)
		for k := range max(s.Len(), r.Len()) {
			holds(t, s, m, k, l, 16)
			holds(t, r, n, k, l, 16)
			holds(t, s, m, k, backFrom(vars), 16)
		}
	}
}
