package hash_test

import (
	"math"
	"slices"
	"testing"

	"osier/api"
	"osier/hash"
)

// put puts a key that must have room.
func put(t *testing.T, x *hash.Table, key [3]int, value int) {
	if e := x.Put(key, value); e != api.OK {
		t.Helper()
		t.Fatalf("Put(%v, %d): error %d", key, value, e)
	}
}

// has wants a key to have a value.
func has(t *testing.T, x *hash.Table, key [3]int, value int) {
	if n, e := x.Get(key); n != value || e != api.OK {
		t.Helper()
		t.Fatalf("Get(%v): %d, error %d, not %d", key, n, e, value)
	}
}

// lacks wants a key not to be there: no value beside the error, and nothing to drop.
func lacks(t *testing.T, x *hash.Table, key [3]int) {
	if n, e := x.Get(key); n != 0 || e != api.ErrNone {
		t.Helper()
		t.Fatalf("Get(%v): %d, error %d, not 0, ErrNone", key, n, e)
	}
	if x.Drop(key) {
		t.Helper()
		t.Fatalf("Drop(%v) of a key that is not there: true", key)
	}
}

// holds wants a table to have so many keys.
func holds(t *testing.T, x *hash.Table, keys int) {
	if n := x.Len(); n != keys {
		t.Helper()
		t.Fatalf("Len: %d, not %d", n, keys)
	}
}

// edges is numbers of all magnitudes, the ends of what a number may be among them.
func edges() []int {
	return []int{math.MinInt, math.MinInt + 1, -1 << 32, -2, -1, 0, 1, 2, 3, 1 << 31, 1 << 32, api.MaxSat, math.MaxInt - 1, math.MaxInt}
}

// Ha1: a new table has no keys.
func TestNewHasNoKeys(t *testing.T) {
	x := hash.New()
	holds(t, x, 0)
	for _, a := range edges() {
		lacks(t, x, [3]int{a, a, a})
		lacks(t, x, [3]int{a, 0, 0})
		lacks(t, x, [3]int{0, 0, a})
	}
	holds(t, x, 0)
}

// Ha1: the chapter's example, and the other orders of the same three numbers.
func TestExample(t *testing.T) {
	x := hash.New()
	put(t, x, [3]int{1, 2, 3}, 7)
	has(t, x, [3]int{1, 2, 3}, 7)
	for _, key := range [][3]int{{3, 2, 1}, {1, 3, 2}, {2, 1, 3}, {2, 3, 1}, {3, 1, 2}} {
		lacks(t, x, key)
	}
	holds(t, x, 1)
}

// Ha1: a key that is put twice has the later value, and is one key.
func TestPutTwice(t *testing.T) {
	x := hash.New()
	key := [3]int{4, 5, 6}
	for _, value := range []int{1, 2, 2, 0, -1, 1} {
		put(t, x, key, value)
		has(t, x, key, value)
		holds(t, x, 1)
	}
}

// Ha1: a key that is dropped is there no more, till it is put again; nothing of its former value is left.
func TestDropAndPutAgain(t *testing.T) {
	x := hash.New()
	key := [3]int{4, 5, 6}
	lacks(t, x, key)
	for value := range 100 {
		put(t, x, key, value+1)
		has(t, x, key, value+1)
		holds(t, x, 1)
		if !x.Drop(key) {
			t.Fatal("Drop of a key that is there: false")
		}
		lacks(t, x, key)
		holds(t, x, 0)
	}
}

// Ha1: Clear of a table without keys, with few, and with many; then keys may be put as into a new one.
func TestClear(t *testing.T) {
	x := hash.New()
	for _, keys := range []int{0, 1, 5, 6, 7, 8, 1000, 3, 0} {
		for k := range keys {
			put(t, x, [3]int{k, k, k}, k+1)
		}
		holds(t, x, keys)
		if e := x.Clear(); e != api.OK {
			t.Fatalf("Clear: error %d", e)
		}
		holds(t, x, 0)
		for k := range keys {
			lacks(t, x, [3]int{k, k, k})
		}
	}
}

// Ha1: keys and values are any numbers; keys that differ in one number alone are two.
func TestAnyNumbers(t *testing.T) {
	x, l := hash.New(), edges()
	value := func(i, j, k int) int { return l[(i+3*j+5*k)%len(l)] }
	for i, a := range l {
		for j, b := range l {
			for k, c := range l {
				put(t, x, [3]int{a, b, c}, value(i, j, k))
			}
		}
	}
	holds(t, x, len(l)*len(l)*len(l))
	for i, a := range l {
		for j, b := range l {
			for k, c := range l {
				has(t, x, [3]int{a, b, c}, value(i, j, k))
			}
		}
	}
}

// fullKey is the keys of a full table, none of them twice.
func fullKey(k int) [3]int {
	return [3]int{k >> 10, k & 1023, -k}
}

// full is a table with as many keys as there may be: the key k has k.
func full(t *testing.T) *hash.Table {
	x := hash.New()
	for k := range api.MaxKeys {
		put(t, x, fullKey(k), k)
	}
	holds(t, x, api.MaxKeys)
	return x
}

// refuses wants a full table to refuse a key, and not to have it then.
func refuses(t *testing.T, x *hash.Table, key [3]int) {
	t.Helper()
	if e := x.Put(key, 7); e != api.ErrFull {
		t.Fatalf("Put(%v) into a full table: error %d, not ErrFull", key, e)
	}
	lacks(t, x, key)
	holds(t, x, api.MaxKeys)
}

// Ha1, R2: a full table refuses a key that it has not, and is not changed by that; a key that it has may still be put.
func TestFull(t *testing.T) {
	x := full(t)
	for _, a := range edges() {
		refuses(t, x, [3]int{a, a, 7})
	}
	for _, k := range []int{0, 1, 12345, api.MaxKeys - 1} {
		put(t, x, fullKey(k), -k-1)
		has(t, x, fullKey(k), -k-1)
		holds(t, x, api.MaxKeys)
		put(t, x, fullKey(k), k)
	}
	refuses(t, x, [3]int{0, 0, 1})
	for k := range api.MaxKeys {
		has(t, x, fullKey(k), k)
	}
}

// Ha1: where a key was dropped from a full table there is room for one, and for one alone.
func TestFullAndDrop(t *testing.T) {
	x := full(t)
	for k := range 1000 {
		other := [3]int{k, k, 7}
		refuses(t, x, other)
		if !x.Drop(fullKey(k)) {
			t.Fatalf("Drop(%v): false", fullKey(k))
		}
		holds(t, x, api.MaxKeys-1)
		lacks(t, x, fullKey(k))
		put(t, x, other, k)
		has(t, x, other, k)
		refuses(t, x, fullKey(k))
	}
	for k := 1000; k < api.MaxKeys; k++ {
		has(t, x, fullKey(k), k)
	}
}

// Ha1: a full table is emptied by Clear, and by Drop of all keys, and may be filled again.
func TestFullAndEmptied(t *testing.T) {
	x := full(t)
	for k := range api.MaxKeys {
		if !x.Drop(fullKey(k)) {
			t.Fatalf("Drop(%v): false", fullKey(k))
		}
	}
	holds(t, x, 0)
	for range 2 {
		for k := range api.MaxKeys {
			put(t, x, fullKey(k), -k)
		}
		refuses(t, x, [3]int{0, 0, 1})
		has(t, x, fullKey(api.MaxKeys-1), 1-api.MaxKeys)
		if e := x.Clear(); e != api.OK {
			t.Fatalf("Clear: error %d", e)
		}
		holds(t, x, 0)
		lacks(t, x, fullKey(0))
	}
}

// notGiven wants a table that New did not give to answer so, whatever it is asked, and to stay so.
func notGiven(t *testing.T, x *hash.Table) {
	t.Helper()
	for _, a := range edges() {
		key := [3]int{a, a, 0}
		if e := x.Put(key, a); e != api.ErrArg {
			t.Errorf("Put: error %d, not ErrArg", e)
		}
		if n, e := x.Get(key); n != 0 || e != api.ErrArg {
			t.Errorf("Get: %d, error %d, not 0, ErrArg", n, e)
		}
		if x.Drop(key) {
			t.Error("Drop: true")
		}
		if n := x.Len(); n != 0 {
			t.Errorf("Len: %d, not 0", n)
		}
		if e := x.Clear(); e != api.ErrArg {
			t.Errorf("Clear: error %d, not ErrArg", e)
		}
	}
}

// Ha1, R1: tables that New did not give: none, an empty one, and one that was copied.
func TestTablesNotGiven(t *testing.T) {
	notGiven(t, nil)
	notGiven(t, &hash.Table{})
	x := hash.New()
	for k := range 5 {
		put(t, x, [3]int{k, k, 0}, k)
	}
	y := *x
	notGiven(t, &y)
	for k := range 5 {
		has(t, x, [3]int{k, k, 0}, k)
	}
	lacks(t, x, [3]int{-1, -1, 0})
	holds(t, x, 5)
}

// dice is a row of numbers that look thrown, the same ones each time.
func dice(seed uint64) func(n int) int {
	return func(n int) int {
		seed = seed*6364136223846793005 + 1442695040888963407
		return int(seed>>33) % n
	}
}

// play does one thing with a table, and the same with Go's own map.
func play(t *testing.T, x *hash.Table, want map[[3]int]int, key [3]int, deed, value int) {
	t.Helper()
	old, there := want[key]
	switch {
	case deed < 5:
		put(t, x, key, value)
		want[key] = value
	case deed < 9:
		if x.Drop(key) != there {
			t.Fatalf("Drop(%v): not %v", key, there)
		}
		delete(want, key)
	case there:
		has(t, x, key, old)
	default:
		lacks(t, x, key)
	}
	holds(t, x, len(want))
}

// Ha2: a key has what was put last, whatever is done with others: against Go's own map, with few keys and with many.
func TestAgainstMap(t *testing.T) {
	for _, span := range []int{1, 2, 3, 5, 10, 30} {
		x, want := hash.New(), map[[3]int]int{}
		throw := dice(uint64(span))
		key := func() [3]int { return [3]int{throw(span), throw(span) - span/2, throw(span) << 40} }
		for range 40000 {
			play(t, x, want, key(), throw(10), throw(1000)-500)
			if throw(9000) == 0 {
				if e := x.Clear(); e != api.OK {
					t.Fatalf("Clear: error %d", e)
				}
				clear(want)
			}
		}
		for k, value := range want {
			has(t, x, k, value)
		}
	}
}

// Ha2: after all of some keys are dropped, each other one has what it had.
func TestOthersStayWhenSomeAreDropped(t *testing.T) {
	const keys = 3000
	for _, step := range []int{2, 3, 7, 64, 1000} {
		x := hash.New()
		for k := range keys {
			put(t, x, [3]int{k, 1, -k}, k)
		}
		for k := 0; k < keys; k += step {
			if !x.Drop([3]int{k, 1, -k}) {
				t.Fatalf("Drop of %d: false", k)
			}
		}
		for k := range keys {
			if k%step == 0 {
				lacks(t, x, [3]int{k, 1, -k})
			} else {
				has(t, x, [3]int{k, 1, -k}, k)
			}
		}
	}
}

// Ha2: of few keys, in each of their orders, each has its own, and what is left when some are dropped in each order too.
func TestOrderOfFewKeys(t *testing.T) {
	keys := [][3]int{{0, 0, 0}, {0, 0, 1}, {1, 0, 0}, {0, 1, 0}, {-1, -1, -1}, {7, 8, 9}}
	for way := range 720 {
		order, rest := slices.Clone(keys), way
		for i := range order {
			j := i + rest%(len(order)-i)
			rest /= len(order) - i
			order[i], order[j] = order[j], order[i]
		}
		x := hash.New()
		for _, key := range order {
			put(t, x, key, slices.Index(keys, key))
		}
		for i, key := range keys {
			has(t, x, key, i)
		}
		for _, key := range order[:3] {
			x.Drop(key)
		}
		for _, key := range order[:3] {
			lacks(t, x, key)
		}
		for _, key := range order[3:] {
			has(t, x, key, slices.Index(keys, key))
		}
		holds(t, x, 3)
	}
}

// Ha2: many keys, rising, falling, and thrown about, come to the same.
func TestOrderOfManyKeys(t *testing.T) {
	const keys = 5000
	orders := map[string]func(i int) int{
		"rising":  func(i int) int { return i },
		"falling": func(i int) int { return keys - 1 - i },
		"thrown":  func(i int) int { return i * 1999 % keys },
	}
	for name, order := range orders {
		x := hash.New()
		for i := range keys {
			k := order(i)
			put(t, x, [3]int{k, k / 2, k / 3}, 2*k)
		}
		if x.Len() != keys {
			t.Fatalf("%s: Len: %d", name, x.Len())
		}
		for k := range keys {
			has(t, x, [3]int{k, k / 2, k / 3}, 2*k)
		}
	}
}

// R1: each call ends, and soon, of keys that have their numbers in high bits, or in low ones, alone, or that are alike in two numbers.
func TestKeysOfAllShapes(t *testing.T) {
	for shift := 0; shift < 64; shift += 6 {
		for place := range 3 {
			x := hash.New()
			many := 1 << min(16, 64-shift)
			for k := range many {
				var key [3]int
				key[place] = k << shift
				put(t, x, key, k)
			}
			holds(t, x, many)
			for k := range many {
				var key [3]int
				key[place] = k << shift
				has(t, x, key, k)
			}
		}
	}
}

// R1: each call ends, in a table whose keys come and go: it keeps free places, however many were dropped.
func TestKeysThatComeAndGo(t *testing.T) {
	for _, at := range []int{1, 3, 5, 6, 7, 13, 100} {
		x := hash.New()
		for k := range 50000 {
			put(t, x, [3]int{k, 0, 0}, k)
			if k >= at {
				has(t, x, [3]int{k - at, 0, 0}, k-at)
				if !x.Drop([3]int{k - at, 0, 0}) {
					t.Fatalf("Drop of %d: false", k-at)
				}
				lacks(t, x, [3]int{k - at, 0, 0})
				holds(t, x, at)
			}
		}
	}
}

// R4: tables have nothing together, and answer the same after the same calls.
func TestTablesAreTheirOwn(t *testing.T) {
	x, y, z := hash.New(), hash.New(), hash.New()
	for k := range 100 {
		put(t, x, [3]int{k, 0, 0}, k)
		put(t, y, [3]int{k, 0, 0}, -k)
	}
	holds(t, z, 0)
	lacks(t, z, [3]int{0, 0, 0})
	if e := x.Clear(); e != api.OK {
		t.Fatalf("Clear: error %d", e)
	}
	for k := range 100 {
		has(t, y, [3]int{k, 0, 0}, -k)
		lacks(t, x, [3]int{k, 0, 0})
	}
	holds(t, y, 100)
}
