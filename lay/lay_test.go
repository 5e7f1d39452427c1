package lay_test

import (
	"math"
	mathbits "math/bits"
	"slices"
	"strconv"
	"strings"
	"testing"

	"osier/api"
	"osier/lay"
)

// signs is all that a name may have.
const signs = "abcdefghijklmnopqrstuvwxyzABCDEFGHIJKLMNOPQRSTUVWXYZ0123456789"

// widthOf is how many bits the numbers below a size need: those of the greatest of them.
func widthOf(size int) int {
	return mathbits.Len(uint(size - 1))
}

// bitsOf is how many bits domains have together.
func bitsOf(doms []api.Dom) int {
	n := 0
	for _, d := range doms {
		n += widthOf(d.Size)
	}
	return n
}

// sized is domains of these sizes, with the names A, B, ... and, behind Z, A1, B1, ...
func sized(sizes ...int) []api.Dom {
	var doms []api.Dom
	for i, size := range sizes {
		name := string(rune('A' + i%26))
		if i >= 26 {
			name += strconv.Itoa(i / 26)
		}
		doms = append(doms, api.Dom{Name: name, Size: size})
	}
	return doms
}

// all is so many domains, each of one size.
func all(n, size int) []api.Dom {
	return sized(slices.Repeat([]int{size}, n)...)
}

// textOf is the order of groups of domains, told by their places.
func textOf(doms []api.Dom, groups [][]int) string {
	var l []string
	for _, group := range groups {
		var names []string
		for _, i := range group {
			names = append(names, doms[i].Name)
		}
		l = append(l, strings.Join(names, "*"))
	}
	return strings.Join(l, "_")
}

// bit is one bit of a domain, told by the domain's place, and where it stands: in which group, how many bits of its domain are higher, and at which place of the group its domain is.
type bit struct {
	dom, at             int
	group, higher, turn int
}

// placesOf is what Place must answer: all bits are sorted by where they stand, and then numbered.
func placesOf(doms []api.Dom, groups [][]int) [][]int {
	var l []bit
	for g, group := range groups {
		for turn, i := range group {
			for at := range widthOf(doms[i].Size) {
				l = append(l, bit{i, at, g, widthOf(doms[i].Size) - 1 - at, turn})
			}
		}
	}
	slices.SortFunc(l, func(a, b bit) int {
		return slices.Compare([]int{a.group, a.higher, a.turn}, []int{b.group, b.higher, b.turn})
	})
	vars := make([][]int, len(doms))
	for i, d := range doms {
		vars[i] = make([]int, widthOf(d.Size))
	}
	for v, b := range l {
		vars[b.dom][b.at] = v
	}
	return vars
}

// rows tells whether two lists of rows are the same.
func rows(a, b [][]int) bool {
	return slices.EqualFunc(a, b, slices.Equal[[]int])
}

// law holds what La4 says against an answer of Place: each variable below Bits is one bit of one domain, and each domain's bits stand the highest first.
func law(t *testing.T, doms []api.Dom, order string, vars [][]int) {
	t.Helper()
	seen := make([]int, lay.Bits(doms))
	for i, l := range vars {
		for at, v := range l {
			if v < 0 || v >= len(seen) {
				t.Fatalf("Place(%v, %q): %v has the variable %d, of %d", doms, order, vars, v, len(seen))
			}
			seen[v]++
			if at > 0 && v >= l[at-1] {
				t.Fatalf("Place(%v, %q): the bits of the domain %d stand at %v, not the highest first", doms, order, i, l)
			}
		}
	}
	for v, n := range seen {
		if n != 1 {
			t.Fatalf("Place(%v, %q): %v has the variable %d %d times", doms, order, vars, v, n)
		}
	}
}

// places holds Place of an order against what it must answer.
func places(t *testing.T, doms []api.Dom, order string, want [][]int) {
	t.Helper()
	vars, e := lay.Place(doms, order)
	if e != api.OK || !rows(vars, want) {
		t.Fatalf("Place(%v, %q): %v, error %d, not %v", doms, order, vars, e, want)
	}
	law(t, doms, order, vars)
}

// noOrder holds that a text is no order of domains that may be.
func noOrder(t *testing.T, doms []api.Dom, order string) {
	t.Helper()
	if vars, e := lay.Place(doms, order); e != api.ErrOrder || len(vars) != 0 {
		t.Fatalf("Place(%v, %s): %v, error %d, not ErrOrder", doms, short(order), vars, e)
	}
}

// short is a text as it is told: of a long one the beginning.
func short(text string) string {
	return strconv.Quote(text[:min(len(text), 100)])
}

// allIn is the groups of all domains in one group, and eachAlone those of each domain in a group of its own.
func allIn(n int) [][]int {
	var group []int
	for i := range n {
		group = append(group, i)
	}
	if n == 0 {
		return nil
	}
	return [][]int{group}
}

func eachAlone(n int) [][]int {
	var groups [][]int
	for i := range n {
		groups = append(groups, []int{i})
	}
	return groups
}

// may holds all five calls of domains that may be.
func may(t *testing.T, doms []api.Dom) {
	t.Helper()
	if e := lay.Check(doms); e != api.OK {
		t.Fatalf("Check(%v): error %d, not OK", doms, e)
	}
	if n := lay.Bits(doms); n != bitsOf(doms) {
		t.Fatalf("Bits(%v): %d, not %d", doms, n, bitsOf(doms))
	}
	stacked, woven := textOf(doms, eachAlone(len(doms))), textOf(doms, allIn(len(doms)))
	if s := lay.Stacked(doms); s != stacked {
		t.Fatalf("Stacked(%v): %q, not %q", doms, s, stacked)
	}
	if s := lay.Woven(doms); s != woven {
		t.Fatalf("Woven(%v): %q, not %q", doms, s, woven)
	}
	places(t, doms, stacked, placesOf(doms, eachAlone(len(doms))))
	places(t, doms, woven, placesOf(doms, allIn(len(doms))))
}

// mayNot holds all five calls of domains that may not be: whatever the order is, they come ahead of it.
func mayNot(t *testing.T, doms []api.Dom) {
	t.Helper()
	few := doms[:min(len(doms), 40)]
	if e := lay.Check(doms); e != api.ErrArg {
		t.Fatalf("Check(%v): error %d, not ErrArg", few, e)
	}
	if n := lay.Bits(doms); n != 0 {
		t.Fatalf("Bits(%v): %d, not 0", few, n)
	}
	if s := lay.Stacked(doms); s != "" {
		t.Fatalf("Stacked(%v): %s, not the empty text", few, short(s))
	}
	if s := lay.Woven(doms); s != "" {
		t.Fatalf("Woven(%v): %s, not the empty text", few, short(s))
	}
	groups := eachAlone(len(doms))
	for _, order := range []string{"", "A", "_", "*", "A__B", "?", "\xff", textOf(doms, groups), textOf(doms, groups[1:]), textOf(doms, groups) + "_"} {
		if vars, e := lay.Place(doms, order); e != api.ErrArg || len(vars) != 0 {
			t.Fatalf("Place(%v, %s): %v, error %d, not ErrArg", few, short(order), vars, e)
		}
	}
}

// dice throws numbers below what is asked, the same ones each time it begins with a seed.
func dice(seed uint64) func(n int) int {
	return func(n int) int {
		seed = seed*6364136223846793005 + 1442695040888963407
		return int(seed>>33) % n
	}
}

// shuffled is the numbers below n in a thrown order.
func shuffled(throw func(n int) int, n int) []int {
	var l []int
	for i := range n {
		l = slices.Insert(l, throw(i+1), i)
	}
	return l
}

// throwGroups is a thrown order of so many domains.
func throwGroups(throw func(n int) int, n int) [][]int {
	var groups [][]int
	sticks := throw(4)
	for at, i := range shuffled(throw, n) {
		if at > 0 && throw(4) < sticks {
			groups[len(groups)-1] = append(groups[len(groups)-1], i)
		} else {
			groups = append(groups, []int{i})
		}
	}
	return groups
}

// throwDoms is thrown domains that may be.
func throwDoms(throw func(n int) int) []api.Dom {
	var doms []api.Dom
	most := 1 + throw(30)
	for range throw(api.MaxDoms + 1) {
		name := ""
		for range 1 + throw(1+throw(16)) {
			name += string(signs[throw(len(signs))])
		}
		size := 1 + throw(1<<throw(most+1))
		twice := slices.ContainsFunc(doms, func(d api.Dom) bool { return d.Name == name })
		if !twice && bitsOf(doms)+widthOf(size) <= api.MaxVars {
			doms = append(doms, api.Dom{Name: name, Size: size})
		}
	}
	return doms
}

// everyOrder goes through all orders of so many domains: each way in which they stand, and each way to part them.
func everyOrder(n int, do func(groups [][]int)) {
	var from func(l []int)
	from = func(l []int) {
		if len(l) < n {
			for i := range n {
				if !slices.Contains(l, i) {
					from(append(slices.Clone(l), i))
				}
			}
			return
		}
		for cuts := range 1 << max(n-1, 0) {
			var groups [][]int
			for at, i := range l {
				if at > 0 && cuts>>(at-1)&1 == 0 {
					groups[len(groups)-1] = append(groups[len(groups)-1], i)
				} else {
					groups = append(groups, []int{i})
				}
			}
			do(groups)
		}
	}
	from(nil)
}

// La2: the example.
func TestExample(t *testing.T) {
	doms := []api.Dom{{Name: "A", Size: 4}, {Name: "B", Size: 2}}
	places(t, doms, "A*B", [][]int{{2, 0}, {1}})
}

// La1, La2, La3: all five calls of some domains, by hand.
func TestByHand(t *testing.T) {
	doms := []api.Dom{{Name: "var", Size: 8}, {Name: "H", Size: 3}, {Name: "0", Size: 1}, {Name: "z9", Size: 2}}
	if e := lay.Check(doms); e != api.OK {
		t.Errorf("Check: error %d", e)
	}
	if n := lay.Bits(doms); n != 6 {
		t.Errorf("Bits: %d", n)
	}
	if s := lay.Stacked(doms); s != "var_H_0_z9" {
		t.Errorf("Stacked: %q", s)
	}
	if s := lay.Woven(doms); s != "var*H*0*z9" {
		t.Errorf("Woven: %q", s)
	}
	places(t, doms, "var_H_0_z9", [][]int{{2, 1, 0}, {4, 3}, {}, {5}})
	places(t, doms, "z9_0_H_var", [][]int{{5, 4, 3}, {2, 1}, {}, {0}})
	places(t, doms, "var*H*0*z9", [][]int{{5, 3, 0}, {4, 1}, {}, {2}})
	places(t, doms, "z9*0*H*var", [][]int{{5, 4, 2}, {3, 1}, {}, {0}})
	places(t, doms, "0_z9_H*var", [][]int{{5, 4, 2}, {3, 1}, {}, {0}})
	places(t, doms, "H_z9*var_0", [][]int{{5, 4, 3}, {1, 0}, {}, {2}})
	places(t, doms, "var*z9_H*0", [][]int{{3, 2, 0}, {5, 4}, {}, {1}})
}

// La2: groups of domains whose widths differ, in each order, by hand: those of more bits go on alone, or with those that have as many.
func TestWidthsThatDiffer(t *testing.T) {
	doms := sized(16, 2, 4, 16)
	for _, r := range []struct {
		order string
		vars  [][]int
	}{
		{"A*B*C*D", [][]int{{9, 7, 4, 0}, {1}, {5, 2}, {10, 8, 6, 3}}},
		{"A*D*C*B", [][]int{{9, 7, 4, 0}, {3}, {6, 2}, {10, 8, 5, 1}}},
		{"B*C*A*D", [][]int{{9, 7, 5, 2}, {0}, {4, 1}, {10, 8, 6, 3}}},
		{"D*C*B*A", [][]int{{10, 8, 6, 3}, {2}, {5, 1}, {9, 7, 4, 0}}},
		{"A*B_D*C", [][]int{{4, 3, 2, 0}, {1}, {8, 6}, {10, 9, 7, 5}}},
		{"C*D_B*A", [][]int{{10, 9, 8, 7}, {6}, {2, 0}, {5, 4, 3, 1}}},
		{"B*C_A*D", [][]int{{9, 7, 5, 3}, {0}, {2, 1}, {10, 8, 6, 4}}},
		{"B_A*C*D", [][]int{{9, 7, 4, 1}, {0}, {5, 2}, {10, 8, 6, 3}}},
		{"C*A*D_B", [][]int{{8, 6, 4, 1}, {10}, {3, 0}, {9, 7, 5, 2}}},
		{"D_C_B_A", [][]int{{10, 9, 8, 7}, {6}, {5, 4}, {3, 2, 1, 0}}},
	} {
		places(t, doms, r.order, r.vars)
	}
}

// La1 to La4: all orders of up to four domains of all sizes from a few.
func TestAllOrders(t *testing.T) {
	few := []int{1, 2, 3, 4, 9}
	for n := range 5 {
		turns := 1
		for range n {
			turns *= len(few)
		}
		for turn := range turns {
			var sizes []int
			for range n {
				sizes = append(sizes, few[turn%len(few)])
				turn /= len(few)
			}
			doms := sized(sizes...)
			may(t, doms)
			everyOrder(n, func(groups [][]int) {
				places(t, doms, textOf(doms, groups), placesOf(doms, groups))
			})
		}
	}
}

// La1 to La4: thrown domains, in thrown orders.
func TestThrown(t *testing.T) {
	throw := dice(1)
	for range 3000 {
		doms := throwDoms(throw)
		may(t, doms)
		for range 6 {
			groups := throwGroups(throw, len(doms))
			places(t, doms, textOf(doms, groups), placesOf(doms, groups))
		}
	}
}

// La2: of all short texts just those are orders in which each domain stands once.
func TestAllTexts(t *testing.T) {
	const bytes, longest = "AB_*a", 7
	for _, names := range [][]string{{}, {"A"}, {"B"}, {"AB"}, {"A", "B"}, {"AA", "A"}, {"A", "B", "a"}, {"A", "AB", "B"}, {"a", "A", "B", "AA"}} {
		var doms []api.Dom
		for i, name := range names {
			doms = append(doms, api.Dom{Name: name, Size: 1 + i*3})
		}
		orders := map[string][][]int{}
		everyOrder(len(doms), func(groups [][]int) {
			orders[textOf(doms, groups)] = groups
		})
		var from func(text string)
		from = func(text string) {
			if groups, right := orders[text]; right {
				places(t, doms, text, placesOf(doms, groups))
			} else {
				noOrder(t, doms, text)
			}
			for i := range len(bytes) {
				if len(text) < longest {
					from(text + bytes[i:i+1])
				}
			}
		}
		from("")
	}
}

// La2: each byte of an order is left out, is put in at each place, and stands in the place of each: all orders of the same domains are of one length, so that only one separator in place of the other one makes an order again.
func TestOrdersWithAnotherByte(t *testing.T) {
	doms := []api.Dom{{Name: "A", Size: 4}, {Name: "b7", Size: 3}, {Name: "Long", Size: 9}, {Name: "x", Size: 1}}
	for _, order := range []string{"A_b7*Long_x", "x*Long*b7*A", "Long_x_A_b7", "b7*x_Long_A"} {
		if _, e := lay.Place(doms, order); e != api.OK {
			t.Fatalf("Place(%v, %q): error %d", doms, order, e)
		}
		for at := range len(order) {
			noOrder(t, doms, order[:at]+order[at+1:])
		}
		for c := range 256 {
			sign := string([]byte{byte(c)})
			for at := range len(order) + 1 {
				noOrder(t, doms, order[:at]+sign+order[at:])
			}
			for at := range len(order) {
				parts := strings.ContainsAny(order[at:at+1], "_*") && strings.ContainsAny(sign, "_*")
				if order[at] != byte(c) && !parts {
					noOrder(t, doms, order[:at]+sign+order[at+1:])
				}
			}
		}
	}
}

// La2: texts that are no orders of some domains: one is lacking, is there twice, or is none of them; another sign; separators at the start, at the end, and two in a row; the empty text.
func TestNoOrders(t *testing.T) {
	doms := sized(4, 3, 1, 2)
	for _, order := range []string{
		"", "A", "A_B_C", "B_C_D", "A*B*D", "A_B_D", "A_B_C_D_A", "A*B*C*D*D", "A_B_C_A", "A_A_C_D", "A*A_B_C_D", "C_C_A_B_D", "A_B_C_D_C",
		"A_B_C_X", "A_B_C_D_X", "X_A_B_C_D", "X", "X*Y", "A_B_C_d", "a_b_c_d", "ABCD", "AB_CD", "AB_C_D", "A_B_CD",
		"A B C D", "A,B,C,D", "A-B-C-D", "A_B_C-D", "A_B_C D", " A_B_C_D", "A_B_C_D ", "A_B_C_D\n", "A _B_C_D", "A_B_C_D\x00", "\x00A_B_C_D", "A_B_(C)_D", "A_B_C_D;", "A/B/C/D",
		"_A_B_C_D", "*A_B_C_D", "A_B_C_D_", "A_B_C_D*", "A__B_C_D", "A**B_C_D", "A_*B_C_D", "A*_B_C_D", "A*B*C**D", "A_B_C__D",
		"_", "*", "__", "_*", "*_", "**", "____", "A_B_C_D__", "__A_B_C_D", "A_B_C_D_A_B_C_D", "A_B_C_D\nA_B_C_D",
	} {
		noOrder(t, doms, order)
	}
	for _, order := range []string{"A_B_C_D", "A*B*C*D", "D*C_B*A", "C_D*A*B"} {
		if _, e := lay.Place(doms, order); e != api.OK {
			t.Fatalf("Place(%v, %q): error %d", doms, order, e)
		}
	}
}

// La2: of many domains each is left out of an order, is there twice in place of each, or once more, or has another name.
func TestEachDomainOnce(t *testing.T) {
	doms := all(api.MaxDoms, 5)
	names := strings.Split(lay.Stacked(doms), "_")
	for _, between := range []string{"_", "*"} {
		for i, name := range names {
			noOrder(t, doms, strings.Join(slices.Delete(slices.Clone(names), i, i+1), between))
			noOrder(t, doms, strings.Join(append(slices.Clone(names), name), between))
			noOrder(t, doms, strings.Join(append([]string{name}, names...), between))
			for _, other := range append([]string{"", "x", name + "0", "_", "*"}, names...) {
				l := slices.Clone(names)
				l[i] = other
				if other != name {
					noOrder(t, doms, strings.Join(l, between))
				}
			}
		}
	}
	for n := range names {
		noOrder(t, doms, strings.Join(names[:n], "_"))
		noOrder(t, doms[:n], strings.Join(names, "_"))
	}
}

// La1, La2, La3: no domains: they may be, and the empty text alone is their order.
func TestNoDomains(t *testing.T) {
	for _, doms := range [][]api.Dom{nil, {}, all(3, 4)[:0]} {
		may(t, doms)
		if vars, e := lay.Place(doms, ""); len(vars) != 0 || e != api.OK {
			t.Errorf("Place of no domains: %v, error %d", vars, e)
		}
		if s := lay.Stacked(doms) + lay.Woven(doms); s != "" {
			t.Errorf("Stacked and Woven of no domains: %q", s)
		}
		for _, order := range []string{"A", "_", "*", " ", "__", "**", "_*", "A_B", "A*B", "\n", "\x00", "\xff", "é", strings.Repeat("_", 1<<20)} {
			noOrder(t, doms, order)
		}
	}
}

// La1: as many domains as may be, and one more.
func TestMostDomains(t *testing.T) {
	for n := range api.MaxDoms + 1 {
		may(t, all(n, 1))
		may(t, all(n, 1<<(api.MaxVars/api.MaxDoms)))
	}
	for n := api.MaxDoms + 1; n < api.MaxDoms+9; n++ {
		mayNot(t, all(n, 1))
		mayNot(t, all(n, 2))
	}
	mayNot(t, all(5000, 1))
	mayNot(t, make([]api.Dom, 1<<20))
}

// La1: names of no sign, of 1, of 16, and of more; each byte in each place.
func TestNames(t *testing.T) {
	for length := range 40 {
		doms := []api.Dom{{Name: "ahead", Size: 3}, {Name: strings.Repeat("q", length), Size: 3}, {Name: "behind", Size: 2}}
		if length >= 1 && length <= 16 {
			may(t, doms)
			may(t, doms[1:2])
		} else {
			mayNot(t, doms)
			mayNot(t, doms[1:2])
		}
	}
	for c := range 256 {
		for _, length := range []int{1, 2, 3, 15, 16} {
			for at := range length {
				name := []byte(strings.Repeat("n", length))
				name[at] = byte(c)
				doms := []api.Dom{{Name: "ahead", Size: 3}, {Name: string(name), Size: 3}}
				if strings.IndexByte(signs, byte(c)) >= 0 {
					may(t, doms)
					may(t, doms[1:])
				} else {
					mayNot(t, doms)
					mayNot(t, doms[1:])
				}
			}
		}
	}
	for _, name := range []string{"é", "Ä", "А", "٣", "ａ", "\u212a", "a\u0301", "x\xffy", "\xc3", "\xed\xa0\x80", "a b", "a_b", "a*b", "_", "*", "-1", "a\n", "\x00", strings.Repeat("é", 8)} {
		mayNot(t, []api.Dom{{Name: name, Size: 2}})
		mayNot(t, []api.Dom{{Name: "A", Size: 2}, {Name: name, Size: 2}, {Name: "B", Size: 2}})
	}
}

// La1: a domain that may not be, in each place among others that may.
func TestOneThatMayNotBe(t *testing.T) {
	for n := 1; n <= api.MaxDoms; n++ {
		for at := range n {
			for _, bad := range []api.Dom{{}, {Name: "x"}, {Size: 2}, {Name: "x", Size: -1}, {Name: "x", Size: api.MaxSize + 1}, {Name: "x_", Size: 2}, {Name: strings.Repeat("x", 17), Size: 2}} {
				doms := all(n, 5)
				doms[at] = bad
				mayNot(t, doms)
			}
		}
	}
}

// La1: no name twice, wherever the two stand, and whatever their sizes are; letters of another case, and beginnings, are other names.
func TestNamesTwice(t *testing.T) {
	for n := 2; n <= api.MaxDoms; n += 5 {
		for a := range n {
			for b := range n {
				doms := all(n, 3)
				doms[a].Name = doms[b].Name
				doms[a].Size = 1 + a%3
				if a == b {
					may(t, doms)
				} else {
					mayNot(t, doms)
				}
			}
		}
	}
	may(t, []api.Dom{{Name: "name", Size: 2}, {Name: "Name", Size: 2}, {Name: "nam", Size: 2}, {Name: "names", Size: 2}, {Name: "ame", Size: 2}, {Name: "NAME", Size: 2}})
	may(t, []api.Dom{{Name: "1", Size: 2}, {Name: "01", Size: 2}, {Name: "10", Size: 2}, {Name: "0", Size: 2}})
	long := strings.Repeat("n", 15)
	may(t, []api.Dom{{Name: long + "a", Size: 2}, {Name: long + "b", Size: 2}, {Name: long, Size: 2}})
}

// La1: sizes from 1 to MaxSize, and beyond both ends, alone and beside others.
func TestSizes(t *testing.T) {
	for _, size := range []int{math.MinInt, math.MinInt + 1, -api.MaxSize, -2, -1, 0, api.MaxSize + 1, api.MaxSize * 2, 1 << 32, 1<<32 + 1, api.MaxSat, math.MaxInt} {
		mayNot(t, sized(size))
		mayNot(t, sized(2, size))
		mayNot(t, sized(size, 2, 1))
	}
	for _, r := range []struct {
		size, width int
	}{{1, 0}, {2, 1}, {3, 2}, {4, 2}, {5, 3}, {api.MaxSize / 2, 29}, {api.MaxSize/2 + 1, 30}, {api.MaxSize - 1, 30}, {api.MaxSize, 30}} {
		may(t, sized(r.size))
		may(t, sized(2, r.size, 1))
		if n := lay.Bits(sized(r.size)); n != r.width {
			t.Errorf("Bits of a size %d: %d, not %d", r.size, n, r.width)
		}
	}
	for w := range 30 {
		for _, size := range []int{1 << w, 1<<w + 1, 1 << (w + 1)} {
			may(t, sized(size))
		}
	}
}

// La1: widths that are together 256, and one more, however they come together.
func TestWidthsTogether(t *testing.T) {
	const great = api.MaxSize
	most := sized(great, great, great, great, great, great, great, great, 1<<16)
	if n := lay.Bits(most); n != api.MaxVars {
		t.Fatalf("Bits(%v): %d, not %d", most, n, api.MaxVars)
	}
	may(t, most)
	may(t, append(slices.Clone(most), api.Dom{Name: "none", Size: 1}))
	mayNot(t, append(slices.Clone(most), api.Dom{Name: "one", Size: 2}))
	mayNot(t, sized(great, great, great, great, great, great, great, great, 1<<16+1))
	mayNot(t, sized(1<<16+1, great, great, great, great, great, great, great, great))
	mayNot(t, all(9, great))
	mayNot(t, all(api.MaxDoms, great))
	may(t, all(api.MaxDoms, 256))
	may(t, all(api.MaxDoms, 129))
	mayNot(t, all(api.MaxDoms, 257))
	for at := range api.MaxDoms {
		doms := all(api.MaxDoms, 256)
		doms[at].Size = 257
		mayNot(t, doms)
		doms[(at+1)%api.MaxDoms].Size = 128
		may(t, doms)
		doms[(at+2)%api.MaxDoms].Size = 1
		may(t, doms)
	}
}

// La2: domains of no bits: alone, only they, and beside others in a group: they take no variable from these.
func TestNoBits(t *testing.T) {
	places(t, sized(1), "A", [][]int{{}})
	for n := range api.MaxDoms + 1 {
		may(t, all(n, 1))
		if b := lay.Bits(all(n, 1)); b != 0 {
			t.Errorf("Bits of %d domains of one value: %d", n, b)
		}
	}
	doms := sized(4, 1, 8, 1)
	places(t, doms, "A_B_C_D", [][]int{{1, 0}, {}, {4, 3, 2}, {}})
	places(t, doms, "B_A_D_C", [][]int{{1, 0}, {}, {4, 3, 2}, {}})
	places(t, doms, "B*A_D*C", [][]int{{1, 0}, {}, {4, 3, 2}, {}})
	places(t, doms, "B*D_A*C", [][]int{{2, 0}, {}, {4, 3, 1}, {}})
	places(t, doms, "A*B*C*D", [][]int{{2, 0}, {}, {4, 3, 1}, {}})
	places(t, doms, "D*C*B*A", [][]int{{3, 1}, {}, {4, 2, 0}, {}})
	noOrder(t, doms, "A*C")
	noOrder(t, doms, "A_B_C")
	noOrder(t, doms, "A_B_B_C_D")
}

// La2, La3: what Place gives for the texts of Stacked and of Woven: one domain's bits behind the other's; and the bits of all, turn by turn.
func TestStackedAndWoven(t *testing.T) {
	for n := range 9 {
		for w := range 30 {
			doms := all(n, 1<<w)
			stacked, woven := make([][]int, n), make([][]int, n)
			for i := range n {
				for at := range w {
					stacked[i] = append(stacked[i], i*w+w-1-at)
					woven[i] = append(woven[i], (w-1-at)*n+i)
				}
			}
			places(t, doms, lay.Stacked(doms), stacked)
			places(t, doms, lay.Woven(doms), woven)
		}
	}
	throw := dice(2)
	for range 300 {
		doms := throwDoms(throw)
		next := 0
		stacked, e := lay.Place(doms, lay.Stacked(doms))
		for i, d := range doms {
			for at := range widthOf(d.Size) {
				if v := stacked[i][widthOf(d.Size)-1-at]; v != next || e != api.OK {
					t.Fatalf("Place(%v) of Stacked: %v, error %d", doms, stacked, e)
				}
				next++
			}
		}
	}
}

// La2: a domain's bits stand at the same places whatever those behind its group are, and hang on how many bits there are ahead of it alone.
func TestGroupsStandForThemselves(t *testing.T) {
	throw := dice(3)
	for range 500 {
		doms := throwDoms(throw)
		groups := throwGroups(throw, len(doms))
		vars, _ := lay.Place(doms, textOf(doms, groups))
		next := 0
		for _, group := range groups {
			var few []api.Dom
			for _, i := range group {
				few = append(few, doms[i])
			}
			alone, e := lay.Place(few, lay.Woven(few))
			for at, i := range group {
				for b, v := range alone[at] {
					if vars[i][b] != next+v || e != api.OK {
						t.Fatalf("Place(%v, %q): %v, but of %v alone: %v, error %d", doms, textOf(doms, groups), vars, few, alone, e)
					}
				}
			}
			next += lay.Bits(few)
		}
	}
}

// R1, La2: very long texts end, and are refused, whatever their beginnings are; very long names, too.
func TestLongTexts(t *testing.T) {
	const long = 1 << 24
	doms := all(api.MaxDoms, 7)
	for _, part := range []string{"A", "_", "*", "A_", "A*", "_A", "*A", "A_B*", "x", "\x00", "\xff", "é", lay.Stacked(doms) + "_", lay.Woven(doms) + "*"} {
		text := strings.Repeat(part, long/len(part))
		noOrder(t, doms, text)
		noOrder(t, nil, text)
		noOrder(t, doms, lay.Stacked(doms)+"_"+text)
		noOrder(t, doms, text+"*"+lay.Woven(doms))
		mayNot(t, []api.Dom{{Name: "B", Size: 2}, {Name: text, Size: 2}})
	}
	// Of the longest names the longest order.
	for i := range doms {
		doms[i].Name = strings.Repeat("w", 16-len(doms[i].Name)) + doms[i].Name
	}
	may(t, doms)
	if s := lay.Woven(doms); len(s) != 32*17-1 {
		t.Errorf("Woven of the longest names has %d bytes", len(s))
	}
}

// La2: texts that are no UTF-8, and those that have other signs than a name's, are no orders.
func TestOtherBytes(t *testing.T) {
	doms := sized(4, 2)
	for _, s := range []string{"\xff", "\xc3", "\x80", "\xed\xa0\x80", "\xf4\x90\x80\x80", "é", "＊", "＿", "\u0301", "Ａ", "\ufeff", "\u200b", "\x00", "\x7f", "\t", "\r", "^", "`", "+", ")", "@", "[", "/", ":"} {
		for _, order := range []string{s, s + "A*B", "A" + s + "*B", "A*" + s + "B", "A*B" + s, "A" + s + "B", "A_" + s + "_B", s + "_" + s} {
			noOrder(t, doms, order)
			noOrder(t, nil, order)
		}
	}
}

// R2: ErrArg comes ahead of ErrOrder, and beside both there is no list.
func TestErrArgIsAhead(t *testing.T) {
	for _, doms := range [][]api.Dom{sized(0), sized(4, -3), all(33, 1), all(9, api.MaxSize), {{Name: "A", Size: 2}, {Name: "A", Size: 2}}, {{Name: "A*B", Size: 2}}, {{Name: "", Size: 2}}} {
		for _, order := range []string{"", "A", "A_A", "A*A", "A*B", "A_B", "_", "no order", "\xff", textOf(doms, eachAlone(len(doms))), textOf(doms, allIn(len(doms)))} {
			if vars, e := lay.Place(doms, order); e != api.ErrArg || len(vars) != 0 {
				t.Errorf("Place(%v, %q): %v, error %d, not ErrArg", doms, order, vars, e)
			}
		}
	}
	if vars, e := lay.Place(sized(2, 2), "A"); e != api.ErrOrder || len(vars) != 0 {
		t.Errorf("Place of A alone: %v, error %d, not ErrOrder", vars, e)
	}
}

// R3: domains are not changed, nor is the room behind their end, and that is not read.
func TestDomainsStay(t *testing.T) {
	throw := dice(4)
	for range 500 {
		room := throwDoms(throw)
		n := len(room)
		// What stands behind would let them not be, and so would a name that is there twice.
		for _, behind := range []api.Dom{{Name: "?", Size: -1}, {Name: "A", Size: api.MaxSize + 1}, {}} {
			room = append(room, behind)
		}
		room = append(room, room[:n]...)
		was := slices.Clone(room)
		may(t, room[:n])
		groups := throwGroups(throw, n)
		places(t, room[:n], textOf(room[:n], groups), placesOf(was[:n], groups))
		noOrder(t, room[:n], textOf(room[:n], groups)+"_")
		mayNot(t, room)
		if !slices.Equal(room, was) {
			t.Fatalf("the domains are changed: %v, not %v", room, was)
		}
	}
}

// scribble writes over lists, and over the room behind their ends.
func scribble(l [][]int) {
	for _, row := range l {
		row = row[:cap(row)]
		for i := range row {
			row[i] = -9
		}
	}
}

// R3, R4: an answer's lists are new memory: what is written into one, and behind its end, is seen in no other one, nor in what is answered later.
func TestAnswersAreNew(t *testing.T) {
	throw := dice(5)
	for range 500 {
		doms := throwDoms(throw)
		groups := throwGroups(throw, len(doms))
		order, want := textOf(doms, groups), placesOf(doms, groups)
		for i := range doms {
			vars, _ := lay.Place(doms, order)
			other, _ := lay.Place(doms, order)
			scribble(vars[i : i+1])
			if !slices.EqualFunc(slices.Delete(vars, i, i+1), slices.Delete(slices.Clone(want), i, i+1), slices.Equal[[]int]) {
				t.Fatalf("Place(%v, %q): the list %d shares room with another one: %v", doms, order, i, vars)
			}
			scribble(vars)
			if !rows(other, want) {
				t.Fatalf("Place(%v, %q): what was answered is now %v, not %v", doms, order, other, want)
			}
		}
		places(t, doms, order, want)
	}
}

// R4: the same calls answer the same, whatever is asked between, and whatever the list's room is.
func TestTheSameAgain(t *testing.T) {
	throw := dice(6)
	for range 200 {
		a, b := throwDoms(throw), throwDoms(throw)
		x, y := throwGroups(throw, len(a)), throwGroups(throw, len(b))
		for range 5 {
			places(t, a, textOf(a, x), placesOf(a, x))
			places(t, slices.Clip(slices.Clone(b)), textOf(b, y), placesOf(b, y))
			noOrder(t, a, textOf(a, x)+"*")
			mayNot(t, append(slices.Clone(b), api.Dom{Name: "bad", Size: 0}))
			may(t, slices.Grow(slices.Clone(a), 40))
		}
	}
}
