package tests

import (
	"fmt"
	"math"
	"math/rand"
	"reflect"
	"slices"
	"strconv"
	"strings"
	"testing"

	"loop.example/g00244/impl"
)

func pairsTold(l []impl.Pair) string {
	return told(l, func(p impl.Pair) string { return p.Key + "=" + p.Val }, " ")
}

// pairsByHand gives what a map has in the order of its keys.
func pairsByHand(m map[string]string) []impl.Pair {
	list := []impl.Pair{}
	for key, val := range m {
		list = append(list, impl.Pair{Key: key, Val: val})
	}
	slices.SortFunc(list, func(a impl.Pair, b impl.Pair) int { return strings.Compare(a.Key, b.Key) })
	return list
}

func modelByHand(w impl.World) []impl.Pair {
	m := map[string]string{}
	for i, x := range w.C.Log {
		for _, order := range w.Begun {
			if i >= w.C.Sure || !x.Yes || order.Tx != x.Tx {
				continue
			}
			for _, o := range order.Ops {
				if o.Kind == impl.OpPut {
					m[o.Key] = o.Val
				} else if o.Kind == impl.OpDel {
					delete(m, o.Key)
				}
			}
		}
	}
	return pairsByHand(m)
}

// tablesByHand takes the least Id that is left, until none is.
func tablesByHand(w impl.World) []impl.Pair {
	m, ids := map[string]string{}, []int{}
	for _, s := range w.Shards {
		ids = append(ids, s.Id)
	}
	for len(ids) > 0 {
		least := slices.Min(ids)
		ids = slices.DeleteFunc(ids, func(id int) bool { return id == least })
		for _, s := range w.Shards {
			for _, p := range s.Map {
				if s.Id == least {
					m[p.Key] = p.Val
				}
			}
		}
	}
	return pairsByHand(m)
}

func restingByHand(w impl.World) bool {
	open := 0
	for _, s := range w.Shards {
		open += len(s.Held)
	}
	for _, j := range w.C.Jobs {
		if j.State == impl.JobAsks {
			open++
		}
	}
	for i := range w.C.Log {
		if i >= w.C.Sure {
			open++
		}
	}
	return open == 0
}

func gotByHand(l []impl.Pair, key string) (string, bool) {
	for _, p := range l {
		if p.Key == key {
			return p.Val, true
		}
	}
	return "", false
}

func readByHand(w impl.World, key string) (string, bool) {
	if len(w.Shards) == 0 {
		return "", false
	}
	return gotByHand(w.Shards[shardByFnv(key, len(w.Shards))].Map, key)
}

// keysIn gives all keys that a world has anywhere, and some that no world has.
func keysIn(w impl.World) []string {
	list := slices.Clone(someKeys)
	for _, s := range w.Shards {
		for _, p := range s.Map {
			list = append(list, p.Key)
		}
	}
	for _, order := range w.Begun {
		for _, o := range order.Ops {
			list = append(list, o.Key)
		}
	}
	slices.Sort(list)
	return slices.Compact(list)
}

func reads(t *testing.T, what string, w impl.World, key string, val string, there bool) {
	t.Helper()
	if got, ok := impl.ReadAt(w, key); got != val || ok != there {
		t.Errorf("%s: ReadAt of %q is %q, %v, not %q, %v", what, key, got, ok, val, there)
	}
}

// goesByHand asks that each of the four answers what the chapter's words make of a world.
func goesByHand(t *testing.T, what string, w impl.World) {
	t.Helper()
	if got, want := impl.Model(w), modelByHand(w); !slices.Equal(got, want) {
		t.Fatalf("%s: Model is %v, by hand %v, of\n%s", what, got, want, strings.Join(worldTold(w), "\n"))
	}
	if got, want := impl.Tables(w), tablesByHand(w); !slices.Equal(got, want) {
		t.Fatalf("%s: Tables is %v, by hand %v, of\n%s", what, got, want, strings.Join(worldTold(w), "\n"))
	}
	if got, want := impl.Resting(w), restingByHand(w); got != want {
		t.Fatalf("%s: Resting is %v, by hand %v, of\n%s", what, got, want, strings.Join(worldTold(w), "\n"))
	}
	for _, key := range keysIn(w) {
		val, there := readByHand(w, key)
		reads(t, what, w, key, val, there)
	}
}

// makes asks what Model and Tables are, told as pairs, and whether it is Resting.
func makes(t *testing.T, what string, w impl.World, model string, tables string, resting bool) {
	t.Helper()
	goesByHand(t, what, w)
	if got := pairsTold(impl.Model(w)); got != model {
		t.Errorf("%s: Model is %q, not %q", what, got, model)
	}
	if got := pairsTold(impl.Tables(w)); got != tables {
		t.Errorf("%s: Tables is %q, not %q", what, got, tables)
	}
	if impl.Resting(w) != resting {
		t.Errorf("%s: Resting is %v", what, !resting)
	}
}

// tabled is a world with these Maps alone, at shards 0, 1 and so on.
func tabled(maps ...string) impl.World {
	w := impl.World{C: impl.CoordNew(len(maps))}
	for id, text := range maps {
		w.Shards = append(w.Shards, impl.Shard{Id: id, Map: pairsOf(text)})
	}
	return w
}

// calm lets every word come, every shard be sure, the choices be sure, all be told and asked, until it is Resting or this went on for long; look is asked behind each event.
func calm(w impl.World, look func(w impl.World)) impl.World {
	do := func(kind int, at int) {
		next, ok := impl.Do(w, impl.Event{Kind: kind, At: at})
		for ok { // until nothing is on its way
			w = next
			look(w)
			next, ok = impl.Do(w, impl.Event{Kind: impl.EvHear})
		}
	}
	for turn := 0; turn < 9 && !restingByHand(w); turn++ {
		for at := range w.Shards {
			do(impl.EvSure, at)
		}
		do(impl.EvDecide, 0)
		do(impl.EvTell, 0)
		for at := range w.Shards {
			do(impl.EvAsk, at)
		}
	}
	return w
}

// putAll begins orders of these keys, eight at a time, and lets them be done.
func putAll(w impl.World, keys []string, op func(key string) impl.Op) impl.World {
	for part := range slices.Chunk(slices.Sorted(slices.Values(keys)), 8) {
		ops := []impl.Op{}
		for _, key := range part {
			ops = append(ops, op(key))
		}
		w, _ = impl.Do(w, impl.Event{Kind: impl.EvBegin, Ops: ops})
		w = calm(w, func(w impl.World) {})
	}
	return w
}

// readWhereItIs asks that a key has its value in the Map of its own shard, in no other one, in Tables and in Model, and is read so.
func readWhereItIs(t *testing.T, w impl.World, key string, val string, there bool) {
	t.Helper()
	reads(t, fmt.Sprint(len(w.Shards), " shards"), w, key, val, there)
	for at, s := range w.Shards {
		got, ok := gotByHand(s.Map, key)
		if own := at == shardByFnv(key, len(w.Shards)); ok != (own && there) || ok && got != val {
			t.Errorf("shard %d of %d has %q, %v of %s", at, len(w.Shards), got, ok, key)
		}
	}
	for _, l := range [][]impl.Pair{impl.Tables(w), impl.Model(w)} {
		if got, ok := gotByHand(l, key); got != val || ok != there {
			t.Errorf("%d shards: %s is %q, %v of all: %v", len(w.Shards), key, got, ok, l)
		}
	}
}

// Each key is read where it is.
func TestKeysAreReadWhereTheyAre(t *testing.T) {
	keys := []string{"0", "9", "zz", "abcdefghijkl", "000000000000", "zzzzzzzzzzzz"}
	for i := range 42 {
		keys = append(keys, fmt.Sprintf("%ck%d", 'a'+i*7%26, i))
	}
	for n := 1; n <= 8; n++ {
		w := putAll(impl.WorldNew(n), keys, func(key string) impl.Op { return impl.Op{Kind: impl.OpPut, Key: key, Val: "of" + key} })
		if !impl.Resting(w) || !impl.WorldOk(w) || len(impl.Tables(w)) != len(keys) {
			t.Fatalf("%d shards: %v", n, impl.Tables(w))
		}
		for _, key := range keys {
			readWhereItIs(t, w, key, "of"+key, true)
		}
		for _, key := range append(slices.Clone(someKeys[2:]), "00", "abcdefghijk", "abcdefghijklm", "zzz", "k0", "of0") {
			if !slices.Contains(keys, key) {
				readWhereItIs(t, w, key, "", false)
			}
		}
		w = putAll(w, keys[:20], func(key string) impl.Op { return impl.Op{Kind: impl.OpDel, Key: key} })
		w = putAll(w, keys[10:30], func(key string) impl.Op { return impl.Op{Kind: impl.OpPut, Key: key} })
		w = putAll(w, keys[25:], func(key string) impl.Op { return impl.Op{Kind: impl.OpPut, Key: key, Val: "new"} })
		for i, key := range keys {
			val := ""
			if i >= 25 {
				val = "new"
			}
			readWhereItIs(t, w, key, val, i >= 10)
		}
		goesByHand(t, "behind all", w)
	}
}

// What is told to one shard alone is read there alone, while the model has all of it from the moment on at which the choice is sure.
func TestTablesOnTheirWay(t *testing.T) {
	w := impl.WorldNew(3)
	makes(t, "new", w, "", "", true)
	for _, x := range []struct {
		events, model, tables string
		resting               bool
	}{
		{"begin a=1 c=1", "", "", false},
		{"hear 0; hear 0", "", "", false},
		{"sure 1; sure 2; hear 0", "", "", false},
		{"hear 0", "", "", false},
		{"decide", "a=1 c=1", "", false},
		{"tell", "a=1 c=1", "", false},
		{"hear 0", "a=1 c=1", "a=1", false},
		{"crash 1", "a=1 c=1", "", false},
		{"hear 0", "a=1 c=1", "c=1", false},
		{"ask 1; hear 0; hear 0", "a=1 c=1", "a=1 c=1", true},
		{"tell; double 0; hear 2", "a=1 c=1", "a=1 c=1", true},
		{"begin -a b=2 c?2 g=3", "a=1 c=1", "a=1 c=1", false},
		{"hear 2; hear 2; hear 2; sure 0; sure 1; hear 2; hear 2", "a=1 c=1", "a=1 c=1", false},
		{"sure 2; hear 2", "a=1 c=1", "a=1 c=1", false},
		{"decide", "a=1 c=1", "a=1 c=1", false},
		{"tell; hear 6; hear 5", "a=1 c=1", "a=1 c=1", false},
		{"hear 4", "a=1 c=1", "a=1 c=1", true},
		{"hear 0; hear 0; hear 0; hear 0", "a=1 c=1", "a=1 c=1", true},
		{"fall 0", "a=1 c=1", "a=1 c=1", true},
		{"begin -a b=2 c?1 g=3; hear 0; hear 0; hear 0; sure 0; sure 1; sure 2; hear 0; hear 0; hear 0", "a=1 c=1", "a=1 c=1", false},
		{"fall 1", "b=2 c=1 g=3", "a=1 c=1", false},
		{"ask 0; ask 1; hear 0; hear 1", "b=2 c=1 g=3", "a=1 c=1 g=3", false},
		{"hear 0; hear 0", "b=2 c=1 g=3", "b=2 c=1 g=3", false},
		{"ask 2; hear 0; hear 0", "b=2 c=1 g=3", "b=2 c=1 g=3", true},
		{"begin b=9 g=9; hear 0; hear 0; sure 0; sure 1; hear 0; hear 0", "b=2 c=1 g=3", "b=2 c=1 g=3", false},
		{"fall 0", "b=2 c=1 g=3", "b=2 c=1 g=3", false},
		{"ask 0; ask 1; hear 0; hear 0; hear 0; hear 0", "b=2 c=1 g=3", "b=2 c=1 g=3", true},
	} {
		for _, part := range strings.Split(x.events, ";") {
			w = does(t, w, eventOf(part), true)
			goesByHand(t, part, w)
		}
		makes(t, x.events, w, x.model, x.tables, x.resting)
	}
}

// everywhere gives each of so many shards all these keys, each with the place of the shard as its value.
func everywhere(count int, keys []string) impl.World {
	w := impl.World{}
	for at := range count {
		s := impl.Shard{Id: at}
		for _, key := range keys {
			s.Map = append(s.Map, impl.Pair{Key: key, Val: strconv.Itoa(at)})
		}
		w.Shards = append(w.Shards, s)
	}
	return w
}

// The place goes by how many shards there are, neither by N nor by Ids.
func TestPlacesThatAreRead(t *testing.T) {
	for count := range 12 {
		w := everywhere(count, someKeys)
		for _, n := range shardCounts {
			w.C.N = n
			for turn := range 3 {
				for at := range w.Shards {
					w.Shards[at].Id = []int{at, count - 1 - at, 7}[turn]
				}
				for _, key := range someKeys {
					if count == 0 {
						reads(t, "no shards", w, key, "", false)
					} else {
						reads(t, fmt.Sprint(count, " shards, N ", n), w, key, strconv.Itoa(shardByFnv(key, count)), true)
					}
				}
			}
		}
	}
	for count, places := range map[int]string{1: "a0 b0 c0 g0", 2: "a0 b1 c0 g0", 3: "a1 b1 c2 g0", 8: "a4 b5 c2 g6"} {
		w := everywhere(count, strings.Split("a b c g", " "))
		w.C.N = 5
		for _, part := range strings.Fields(places) {
			reads(t, fmt.Sprint(count, " shards"), w, part[:1], part[1:], true)
		}
	}
}

// A shard more or less, while who decides has the same N, and the keys are looked for elsewhere.
func TestShardsThatComeAndGo(t *testing.T) {
	base := tabled("g=1 k=2 m=3", "a=4 b=5 d=6 h=7", "c=8 e=9 f=10")
	for key, val := range map[string]string{"g": "1", "a": "4", "h": "7", "f": "10"} {
		reads(t, "three", base, key, val, true)
	}
	for _, w := range []impl.World{
		changed(base, func(w *impl.World) { w.Shards = w.Shards[:2] }),
		changed(base, func(w *impl.World) { w.Shards = w.Shards[1:] }),
		changed(base, func(w *impl.World) { w.Shards = append(w.Shards, impl.ShardNew(3)) }),
		changed(base, func(w *impl.World) { w.Shards = append(w.Shards, w.Shards...) }),
		changed(base, func(w *impl.World) { slices.Reverse(w.Shards) }),
		changed(base, func(w *impl.World) { w.Shards = nil }),
	} {
		goesByHand(t, fmt.Sprint(len(w.Shards), " shards"), w)
	}
	reads(t, "two, a is looked for at 0", changed(base, func(w *impl.World) { w.Shards = w.Shards[:2] }), "a", "", false)
	reads(t, "two, b is looked for at 1", changed(base, func(w *impl.World) { w.Shards = w.Shards[:2] }), "b", "5", true)
	reads(t, "two others, a is looked for at 0", changed(base, func(w *impl.World) { w.Shards = w.Shards[1:] }), "a", "4", true)
	reads(t, "one", changed(base, func(w *impl.World) { w.Shards = w.Shards[2:] }), "c", "8", true)
	reads(t, "none", changed(base, func(w *impl.World) { w.Shards = nil }), "c", "", false)
	reads(t, "none", changed(base, func(w *impl.World) { w.Shards = w.Shards[:0] }), "g", "", false)
	makes(t, "no shards", changed(base, func(w *impl.World) { w.Shards = nil }), "", "", true)
}

func TestKeysThatOnlyAnotherShardHas(t *testing.T) {
	for count := 1; count <= 8; count++ {
		for _, key := range someKeys {
			own := shardByFnv(key, count)
			for at := range count {
				w := everywhere(count, []string{"a", "m"})
				for i := range w.Shards {
					w.Shards[i].Map = slices.DeleteFunc(w.Shards[i].Map, func(p impl.Pair) bool { return p.Key == key })
				}
				w.Shards[at].Map = impl.PutKey(w.Shards[at].Map, key, "here")
				if at == own {
					reads(t, fmt.Sprint("at ", at, " of ", count), w, key, "here", true)
				} else {
					reads(t, fmt.Sprint("at ", at, " of ", count), w, key, "", false)
				}
				if got, ok := gotByHand(impl.Tables(w), key); got != "here" || !ok {
					t.Errorf("Tables has %q, %v of %q at %d", got, ok, key, at)
				}
			}
		}
	}
}

// Of a Map that is not right the first of a Key is read, wherever it stands.
func TestReadingMapsThatAreNotRight(t *testing.T) {
	for _, x := range []struct{ pairs, key, val string }{
		{"b=1 b=2", "b", "1"}, {"b=1 d=2 b=3", "b", "1"}, {"d=1 b=2", "b", "2"}, {"f=1 b=2 d=3", "d", "3"}, {"c=1 a=2 c=3 b=4 a=5", "a", "2"}, {"c=1 a=2 c=3 b=4 a=5", "b", "4"},
		{"=1 =2", "", "1"}, {"B=1 {=2 b=3", "B", "1"}, {"B=1 {=2 b=3", "{", "2"}, {"thirteensigns=1", "thirteensigns", "1"}, {"b=123456789012345678901", "b", "123456789012345678901"}, {"b= b=1", "b", ""},
	} {
		w := tabled("", "", "")
		w.Shards[shardByFnv(x.key, 3)].Map = pairsOf(x.pairs)
		reads(t, x.pairs, w, x.key, x.val, true)
		goesByHand(t, x.pairs, w)
		w.Shards[(shardByFnv(x.key, 3)+1)%3].Map, w.Shards[shardByFnv(x.key, 3)].Map = pairsOf(x.pairs), nil
		reads(t, x.pairs+" elsewhere", w, x.key, "", false)
	}
	long := tabled("")
	long.Shards[0].Map = manyPairs(100)
	for _, p := range manyPairs(100) {
		reads(t, "a hundred pairs", long, p.Key, p.Val, true)
	}
}

// It is the Map that is read, whatever the records say.
func TestMapsAreReadNotRecords(t *testing.T) {
	w := tabled("", "a=2", "")
	w.Shards[1].Log, w.Shards[1].Sure = recsOf("1000 a=1 b=1; 1000+"), 2
	makes(t, "another Map", w, "", "a=2", true)
	w.Shards[1].Map = nil
	makes(t, "no Map", w, "", "", true)
	w.Shards[1].Map, w.Shards[1].Sure = pairsOf("a=1 b=1"), 0
	makes(t, "records that are not sure", w, "", "a=1 b=1", true)
	w.Shards[1].Log = nil
	makes(t, "no records", w, "", "a=1 b=1", true)
	w.Shards[1].Held = recsOf("1001 d=1")
	makes(t, "what is held is in no table", w, "", "a=1 b=1", false)
}

const fewOrders = "1000 a=1 c=1; 1001 b=2; 1002 a=3; 1003 -c d=4; 1004 -a -b; 1005 a?3 e=5"

func TestModelsOfChoices(t *testing.T) {
	for _, x := range []struct {
		log   string
		sure  int
		model string
	}{
		{"", 0, ""},
		{"1000+", 1, "a=1 c=1"},
		{"1000+", 0, ""},
		{"1000-", 1, ""},
		{"1000- 1001+", 2, "b=2"},
		{"1000- 1001+", 1, ""},
		{"1000+ 1001-", 2, "a=1 c=1"},
		{"1001+ 1000+", 1, "b=2"},
		{"1001+ 1000+", 2, "a=1 b=2 c=1"},
		{"1000+ 1002+", 2, "a=3 c=1"},
		{"1002+ 1000+", 2, "a=1 c=1"},
		{"1002- 1000+", 2, "a=1 c=1"},
		{"1000+ 1002-", 2, "a=1 c=1"},
		{"1000+ 1002+", 1, "a=1 c=1"},
		{"1000+ 1003+", 2, "a=1 d=4"},
		{"1003+ 1000+", 2, "a=1 c=1 d=4"},
		{"1000+ 1003+", 1, "a=1 c=1"},
		{"1003+", 1, "d=4"},
		{"1004+", 1, ""},
		{"1001+ 1000+ 1004+", 3, "c=1"},
		{"1001+ 1004+ 1000+", 3, "a=1 c=1"},
		{"1004+ 1001+ 1000+", 3, "a=1 b=2 c=1"},
		{"1001+ 1000+ 1004-", 3, "a=1 b=2 c=1"},
		{"1005+", 1, "e=5"},
		{"1000+ 1005+", 2, "a=1 c=1 e=5"},
		{"1000+ 1001+ 1002+ 1003+ 1005+ 1004+", 6, "d=4 e=5"},
		{"1004+ 1005+ 1003+ 1002+ 1001+ 1000+", 6, "a=1 b=2 c=1 d=4 e=5"},
		{"1000- 1001- 1002- 1003- 1004- 1005-", 6, ""},
		{"1006+", 1, ""},
		{"1000+ 1006+ 1001+", 3, "a=1 b=2 c=1"},
		{"999+ 1000+ 0+ -1000+", 4, "a=1 c=1"},
		{"1000+ 1000+", 2, "a=1 c=1"},
		{"1000+ 1002+ 1000+", 3, "a=1 c=1"},
		{"1000+ 1002+ 1000+", 2, "a=3 c=1"},
		{"1000+ 1003+ 1000-", 3, "a=1 d=4"},
		{"1000- 1000+", 2, "a=1 c=1"},
		{"1000- 1000+", 1, ""},
		{"1000+ 1000-", 1, "a=1 c=1"},
	} {
		w := impl.World{C: coordOf(3, 1, 9, "", x.log, x.sure), Begun: begunOf(fewOrders)}
		what := fmt.Sprint(x.log, " sure ", x.sure)
		makes(t, what, w, x.model, "", x.sure == len(w.C.Log))
		w.C.N = 0
		makes(t, what+", no N", w, x.model, "", x.sure == len(w.C.Log))
		slices.Reverse(w.Begun)
		makes(t, what+", begun in another order", w, x.model, "", x.sure == len(w.C.Log))
		w.Begun = nil
		makes(t, what+", nothing begun", w, "", "", x.sure == len(w.C.Log))
	}
}

// A choice counts from the one at place 0 up to the one ahead of Sure.
func TestModelsUpToTheLastThatIsSure(t *testing.T) {
	w := impl.World{}
	for i := range 40 {
		w.Begun = append(w.Begun, impl.Order{Tx: 1000 + i, Ops: opsOf(fmt.Sprintf("k%02d=%d last=%d", i, i, i))})
		w.C.Log = append(w.C.Log, impl.Choice{Tx: 1000 + i, Yes: i%4 != 3})
	}
	slices.Reverse(w.Begun)
	for count := range 41 {
		for _, sure := range []int{math.MinInt, -1000, -1, 0, 1, 2, 3, 4, 5, count - 2, count - 1, count, count + 1, count + 2, 41, 1000, math.MaxInt} {
			w := changed(w, func(w *impl.World) { w.C.Log, w.C.Sure = w.C.Log[:count], sure })
			want, last := "", ""
			for i := 0; i < min(sure, count); i++ {
				if i%4 != 3 {
					want, last = want+fmt.Sprintf("k%02d=%d ", i, i), fmt.Sprintf("last=%d", i)
				}
			}
			makes(t, fmt.Sprint(sure, " of ", count), w, want+last, "", sure >= count || count == 0)
		}
	}
}

// Of several orders of one Tx, which a world that is not right may have, all are done, as they stand in Begun.
func TestModelsOfSeveralOrders(t *testing.T) {
	for _, x := range []struct{ log, begun, model string }{
		{"1000+", "1000 a=1; 1000 b=2", "a=1 b=2"},
		{"1000+", "1000 a=1; 1000 a=1", "a=1"},
		{"1000+", "1000 a=1; 1000 a=2", "a=2"},
		{"1000+", "1000 a=2; 1000 a=1", "a=1"},
		{"1000+", "1000 a=1 b=1; 1000 -a", "b=1"},
		{"1000+", "1000 -a; 1000 a=1 b=1", "a=1 b=1"},
		{"1000+", "1000 a=1; 1001 a=5 b=5; 1000 c=1", "a=1 c=1"},
		{"1000+ 1001+", "1000 a=1; 1001 a=5 b=5; 1000 c=1", "a=5 b=5 c=1"},
		{"1001+ 1000+", "1000 a=1; 1001 a=5 b=5; 1000 c=1", "a=1 b=5 c=1"},
		{"1001+ 1000-", "1000 a=1; 1001 a=5 b=5; 1000 c=1", "a=5 b=5"},
		{"1000+", "1000; 1000 a=1; 1000", "a=1"},
	} {
		w := impl.World{C: coordOf(3, 1, 9, "", x.log, 9), Begun: begunOf(x.begun)}
		makes(t, x.log+" of "+x.begun, w, x.model, "", true)
		w.C.Sure = 0
		makes(t, x.log+" of "+x.begun+", not sure", w, "", "", false)
	}
}

// Orders that are not right are done by the words of Apply, and needs are not asked for.
func TestModelsOfOrdersThatAreNotRight(t *testing.T) {
	for begun, model := range map[string]string{
		"1000 b=1 a=2": "a=2 b=1", "1000 a=1 a=2": "a=2", "1000 a=1 -a": "", "1000 -a a=1": "a=1", "1000": "", "1000 a?1 b? c?": "", "1000 a?1": "", "1000 a?1 b=1": "b=1", "1000 A=1 b=2": "A=1 b=2", "1000 -a=1": "",
		"1000 0:a=1 4:b=2 c=3": "c=3", "1000 thirteensigns=1": "thirteensigns=1", "1000 a=123456789012345678901": "a=123456789012345678901", "1000 a=1 b=2 c=3 d=4 e=5 f=6 g=7 h=8 i=9": "a=1 b=2 c=3 d=4 e=5 f=6 g=7 h=8 i=9",
		"0 a=1": "", "1001 a=1": "", "2000 a=1": "", "1000 a=": "a=",
	} {
		makes(t, begun, impl.World{C: coordOf(3, 1, 1, "", "1000+", 1), Begun: begunOf(begun)}, model, "", true)
	}
	for i, text := range slices.Concat(wrongOrders, rightOrders) {
		w := impl.World{C: coordOf(3, 1, 2, "", "1000+ 1001+", 2), Begun: []impl.Order{{Tx: 1000, Ops: opsOf("a=0 b=0 c=0 d=0 f=0")}, {Tx: 1001, Ops: opsOf(text)}}}
		goesByHand(t, fmt.Sprint("orders ", i, " ", text), w)
	}
}

// Neither jobs nor words nor shards are asked for what was decided.
func TestModelsGoByChoicesAlone(t *testing.T) {
	w := settled(t)
	makes(t, "as it is", w, "a=1 g=1", "a=1 g=1", false)
	makes(t, "no shards", changed(w, func(w *impl.World) { w.Shards = nil }), "a=1 g=1", "", false)
	makes(t, "other Maps", changed(w, func(w *impl.World) { w.Shards = tabled("z=1").Shards }), "a=1 g=1", "z=1", false)
	makes(t, "all sure", changed(w, func(w *impl.World) { w.C.Sure = 3 }), "a=1 e=1 g=1 k=1", "a=1 g=1", false)
	makes(t, "no jobs", changed(w, func(w *impl.World) { w.C.Jobs = nil }), "a=1 g=1", "a=1 g=1", false)
	makes(t, "jobs of other states", changed(w, func(w *impl.World) {
		for i := range w.C.Jobs {
			w.C.Jobs[i].State = 1 + (w.C.Jobs[i].State+1)%3
		}
	}), "a=1 g=1", "a=1 g=1", false)
	makes(t, "jobs of other orders", changed(w, func(w *impl.World) { w.C.Jobs[0].Ops = opsOf("z=1") }), "a=1 g=1", "a=1 g=1", false)
	makes(t, "words", changed(w, func(w *impl.World) { w.Net, w.Outs = wordsOf("tell 0 1002 yes"), wordsOf("vote 0 1003 yes") }), "a=1 g=1", "a=1 g=1", false)
	makes(t, "another life", changed(w, func(w *impl.World) { w.C.Life, w.C.Next, w.C.Jobs = 9, 0, nil }), "a=1 g=1", "a=1 g=1", false)
}

func TestTablesOfMaps(t *testing.T) {
	for _, x := range []struct {
		maps   []string
		tables string
	}{
		{nil, ""}, {[]string{""}, ""}, {[]string{"", "", ""}, ""},
		{[]string{"a=1 b=2"}, "a=1 b=2"},
		{[]string{"g=1", "a=2", "c=3"}, "a=2 c=3 g=1"},
		{[]string{"b=1 d=2", "", "a=3 c=4 e=5"}, "a=3 b=1 c=4 d=2 e=5"},
		{[]string{"a=1", "a=2"}, "a=2"},
		{[]string{"a=2", "a=1"}, "a=1"},
		{[]string{"a=1", "a=2", "a=3"}, "a=3"},
		{[]string{"a=1 b=1 c=1", "b=2", "c=3"}, "a=1 b=2 c=3"},
		{[]string{"b=2", "c=3", "a=1 b=1 c=1"}, "a=1 b=1 c=1"},
		{[]string{"a=1", "a="}, "a="},
		{[]string{"a=", "a=1"}, "a=1"},
		{[]string{"c=1 a=2 b=3"}, "a=2 b=3 c=1"},
		{[]string{"a=1 a=2"}, "a=2"},
		{[]string{"a=2 b=5 a=1"}, "a=1 b=5"},
		{[]string{"b=1", "b=2 a=3 b=4"}, "a=3 b=4"},
		{[]string{"c=1 a=2", "b=3 a=4"}, "a=4 b=3 c=1"},
		{[]string{"{=1 B=2", "=3"}, "=3 B=2 {=1"},
		{[]string{"thirteensigns=1", "a=123456789012345678901"}, "a=123456789012345678901 thirteensigns=1"},
	} {
		makes(t, strings.Join(x.maps, " / "), tabled(x.maps...), "", x.tables, true)
	}
	for _, text := range pairLists {
		for _, other := range pairLists {
			goesByHand(t, text+" / "+other, tabled(text, other))
			goesByHand(t, text+" / "+other+" turned", changed(tabled(text, other), func(w *impl.World) { slices.Reverse(w.Shards) }))
		}
	}
}

// Where Maps share a key, the one of the greater Id counts, wherever it stands; of one Id the one that stands behind.
func TestTablesGoByIds(t *testing.T) {
	for _, x := range []struct {
		ids    []int
		maps   string
		tables string
	}{
		{[]int{0, 1}, "a=1/a=2", "a=2"},
		{[]int{1, 0}, "a=1/a=2", "a=1"},
		{[]int{2, 1, 0}, "a=1 b=1/a=2 c=2/a=3 b=3 c=3", "a=1 b=1 c=2"},
		{[]int{1, 2, 0}, "a=1 b=1/a=2 c=2/a=3 b=3 c=3", "a=2 b=1 c=2"},
		{[]int{1, 1}, "a=1/a=2", "a=2"},
		{[]int{1, 0, 1}, "a=1/a=2/a=3", "a=3"},
		{[]int{1, 1, 0}, "a=1/a=2/a=3", "a=2"},
		{[]int{0, -1}, "a=1/a=2", "a=1"},
		{[]int{math.MaxInt, math.MinInt, -1, 0}, "a=1/a=2/a=3/a=4", "a=1"},
		{[]int{math.MinInt, math.MaxInt, 9, 8}, "a=1/a=2/a=3/a=4", "a=2"},
		{[]int{math.MinInt, 1}, "a=1/a=2", "a=2"},
		{[]int{7, 100}, "a=1/a=2", "a=2"},
	} {
		w := tabled(strings.Split(x.maps, "/")...)
		for at := range w.Shards {
			w.Shards[at].Id = x.ids[at]
		}
		makes(t, fmt.Sprint(x.maps, " of ", x.ids), w, "", x.tables, true)
	}
	from := rand.New(rand.NewSource(14))
	for range 200 {
		w := impl.World{}
		for at := range 60 {
			w.Shards = append(w.Shards, impl.Shard{Id: from.Intn(4), Map: pairsOf(fmt.Sprintf("a=%d b%d=%d", at, from.Intn(9), at))})
		}
		goesByHand(t, "many shards of few Ids", w)
	}
}

// All shards together may have more than MaxPairs; none is left out.
func TestTablesOfManyPairs(t *testing.T) {
	w, keys := impl.WorldNew(8), map[string]string{}
	for i := 0; len(keys) < 8*impl.MaxPairs; i++ {
		key := fmt.Sprint("key", i)
		if at := shardByFnv(key, 8); len(w.Shards[at].Map) < impl.MaxPairs {
			w.Shards[at].Map = impl.PutKey(w.Shards[at].Map, key, fmt.Sprint(i))
			keys[key] = fmt.Sprint(i)
			tx := 1000 + len(w.Begun)
			w.Begun = append(w.Begun, impl.Order{Tx: tx, Ops: opsOf(fmt.Sprintf("%s=%d", key, i))})
			w.C.Log = append(w.C.Log, impl.Choice{Tx: tx, Yes: true})
		}
	}
	w.C.Sure = len(w.C.Log)
	if got := impl.Tables(w); !slices.Equal(got, pairsByHand(keys)) || !slices.Equal(impl.Model(w), got) {
		t.Errorf("%d pairs, and %d", len(got), len(impl.Model(w)))
	}
	for key, val := range keys {
		reads(t, "many", w, key, val, true)
	}
	w.Shards[0].Map = append(manyPairs(100), w.Shards[0].Map...)
	goesByHand(t, "a Map of too many", w)
}

func TestWorldsThatRest(t *testing.T) {
	base := worldOf(t, 3, `
		c 2 3 : 2000 a=1 g=1 / yes 0 1; 2001 b=1 c=1 / no 1; 2002 h=1 / yes 1 : 1000- 2000+ 2001- 2002+ : 4
		0 : 2000 g=1; 2000+; 1000- : 3
		1 : 2000 a=1; 2001 b=1; 2000+; 2001-; 2002 h=1; 2002+ : 6
		2 : 2001- : 1
		begun : 1000 a=5; 2000 a=1 g=1; 2001 b=1 c=1; 2002 h=1`)
	isWorld(t, "at rest", true, base)
	rests := func(what string, resting bool, change func(w *impl.World)) {
		t.Helper()
		w := changed(base, change)
		if impl.Resting(w) != resting || restingByHand(w) != resting {
			t.Errorf("%s: Resting is %v, by hand %v", what, impl.Resting(w), restingByHand(w))
		}
	}
	rests("as it is", true, func(w *impl.World) {})
	for at := range 3 {
		rests(fmt.Sprint("held at ", at), false, func(w *impl.World) { w.Shards[at].Held = recsOf("7 z=1") })
		rests(fmt.Sprint("two held at ", at), false, func(w *impl.World) { w.Shards[at].Held = recsOf("7 z=1; 8 y=1") })
		rests(fmt.Sprint("Held of no hold at ", at), false, func(w *impl.World) { w.Shards[at].Held = make([]impl.Rec, 1) })
		rests(fmt.Sprint("held by the Log alone at ", at), true, func(w *impl.World) { w.Shards[at].Log = append(w.Shards[at].Log, recOf("7 z=1")) })
		rests(fmt.Sprint("records that are not sure at ", at), true, func(w *impl.World) { w.Shards[at].Sure = 0 })
		for state, resting := range map[int]bool{impl.JobAsks: false, impl.JobYes: true, impl.JobNo: true, 0: true, 4: true, -1: true, math.MaxInt: true} {
			rests(fmt.Sprint("job ", at, " is ", state), resting, func(w *impl.World) { w.C.Jobs[at].State = state })
			rests(fmt.Sprint("job ", at, " alone is ", state), resting, func(w *impl.World) {
				w.C.Jobs = w.C.Jobs[at : at+1]
				w.C.Jobs[0].State = state
			})
		}
	}
	for _, sure := range []int{math.MinInt, -1, 0, 1, 2, 3, 4, 5, 1000, math.MaxInt} {
		rests(fmt.Sprint("sure ", sure), sure >= 4, func(w *impl.World) { w.C.Sure = sure })
		rests(fmt.Sprint("choices of no, sure ", sure), sure >= 2, func(w *impl.World) { w.C.Jobs, w.C.Log, w.C.Sure = nil, logOf("1000- 2001-"), sure })
		rests(fmt.Sprint("no choices, sure ", sure), true, func(w *impl.World) { w.C.Jobs, w.C.Log, w.C.Sure = nil, nil, sure })
	}
	rests("words on their way, and words that wait", true, func(w *impl.World) {
		w.Net, w.Outs = wordsOf("hold 1 2002 h=1; tell 0 2000 yes"), wordsOf("vote 1 2002 yes")
	})
	rests("no jobs", true, func(w *impl.World) { w.C.Jobs = nil })
	rests("no shards", true, func(w *impl.World) { w.Shards = nil })
	rests("nothing begun", true, func(w *impl.World) { w.Begun = nil })
	rests("nothing in the tables", true, func(w *impl.World) { w.Shards[0].Map, w.Shards[1].Map = nil, nil })
	rests("all of it", false, func(w *impl.World) { w.Shards[1].Held, w.C.Jobs[1].State, w.C.Sure = recsOf("7 z=1"), impl.JobAsks, 3 })
	for n := -1; n <= 9; n++ {
		makes(t, "new", impl.WorldNew(n), "", "", true)
	}
}

// What holds open a world of events is one thing after the other: that a job asks, that its choice is not sure, that shards hold it.
func TestWhatKeepsFromResting(t *testing.T) {
	w := impl.WorldNew(3)
	for _, x := range []struct {
		events             string
		held, asks, unsure int
		resting            bool
	}{
		{"begin a=1 c=1", 0, 1, 0, false},
		{"hear 0", 1, 1, 0, false},
		{"hear 0; sure 1; sure 2; hear 0; hear 0", 2, 0, 1, false},
		{"decide", 2, 0, 0, false},
		{"tell; hear 0", 1, 0, 0, false},
		{"hear 0", 0, 0, 0, true},
		{"begin a?2; hear 0; sure 1; hear 0", 0, 0, 1, false},
		{"decide", 0, 0, 0, true},
		{"begin g=1", 0, 1, 0, false},
		{"fall 0", 0, 0, 0, true},
		{"hear 0", 1, 0, 0, false},
		{"crash 0", 0, 0, 0, true},
	} {
		w = impl.Play(w, eventsOf(x.events))
		held, asks := 0, 0
		for _, s := range w.Shards {
			held += len(s.Held)
		}
		for _, j := range w.C.Jobs {
			if j.State == impl.JobAsks {
				asks++
			}
		}
		if held != x.held || asks != x.asks || len(w.C.Log)-w.C.Sure != x.unsure || impl.Resting(w) != x.resting {
			t.Errorf("%s: %d held, %d ask, Resting is %v, of\n%s", x.events, held, asks, impl.Resting(w), strings.Join(worldTold(w), "\n"))
		}
		goesByHand(t, x.events, w)
	}
}

// unlikeAtRest tells of a world that is Resting and whose Tables are not its Model, or whose keys are not read as the model has them.
func unlikeAtRest(w impl.World) string {
	if !impl.Resting(w) {
		return ""
	}
	model, tables := impl.Model(w), impl.Tables(w)
	if !slices.Equal(model, tables) || !slices.Equal(model, modelByHand(w)) {
		return fmt.Sprint("Model is ", model, ", Tables ", tables)
	}
	for _, key := range keysIn(w) {
		want, there := gotByHand(model, key)
		if val, ok := impl.ReadAt(w, key); val != want || ok != there {
			return fmt.Sprint(key, " is read as ", val, ", ", ok)
		}
	}
	return ""
}

// noteRest counts what worlds were held to it.
func (m seen) noteRest(w impl.World) {
	if !restingByHand(w) {
		return
	}
	m["rest"]++
	m.noteIf("rest with pairs", len(modelByHand(w)) > 0)
	m.noteIf("rest with words on their way", len(w.Net) > 0)
	m.noteIf("rest with words that wait", len(w.Outs) > 0)
	m.noteIf("rest in a later life", w.C.Life > 1 && len(w.C.Log) > 0)
	m.noteIf("rest of many shards", len(w.Shards) > 2 && len(modelByHand(w)) > 2)
	yes, puts, dels := 0, map[string]int{}, 0
	for _, x := range w.C.Log {
		if !x.Yes {
			m["rest behind a no"]++
			continue
		}
		yes++
		for _, o := range w.Begun[begunByHand(w, x.Tx)].Ops {
			if o.Kind == impl.OpPut {
				puts[o.Key]++
			}
			if o.Kind == impl.OpDel && puts[o.Key] > 0 {
				dels++
			}
		}
	}
	m.noteIf("rest behind several of yes", yes > 2)
	m.noteIf("rest with what was taken away", dels > 0)
	for _, count := range puts {
		m.noteIf("rest with a key put again", count > 1)
	}
	for _, s := range w.Shards {
		m.noteIf("rest with records that are not sure", s.Sure < len(s.Log))
	}
}

func (m seen) noteIf(what string, so bool) {
	if so {
		m[what]++
	}
}

// Of WorldNew, by whatever events: where it is Resting, Tables is Model.
func TestTablesAtRestAreTheModel(t *testing.T) {
	from := rand.New(rand.NewSource(1414))
	m := seen{}
	for run := range 160 {
		w := impl.WorldNew(1 + run%8)
		look := func(w impl.World) {
			m.noteRest(w)
			if wrong := unlikeAtRest(w); wrong != "" {
				t.Fatalf("run %d: %s, of\n%s", run, wrong, strings.Join(worldTold(w), "\n"))
			}
		}
		for range 4 {
			for range 10 + from.Intn(140) {
				e := roughEvent(from, w)
				if run%3 == 0 {
					e = eventBy(from, w, 4+run%24)
				}
				next, ok := impl.Do(w, e)
				if ok {
					m.note(w, e, next)
				}
				w = next
				look(w)
			}
			w = calm(w, look)
			goesByHand(t, "calm", w)
			if !impl.Resting(w) {
				m["no rest"]++
			}
		}
	}
	m.atLeast(t, 200, eventNames[1:]...)
	m.atLeast(t, 100, "held", "done", "gone", "heard ahead of others", "vote behind a choice", "crash kept nothing", "crash kept all")
	m.atLeast(t, 10, "fall kept nothing", "fall kept all", "rest with words that wait")
	m.atLeast(t, 200, "rest", "rest with pairs", "rest with words on their way", "rest in a later life", "rest of many shards", "rest behind a no", "rest behind several of yes",
		"rest with what was taken away", "rest with a key put again", "rest with records that are not sure")
	if m["no rest"] > 100 {
		t.Errorf("%d times there is no rest", m["no rest"])
	}
}

// All worlds, not some of them, that come of a new one with few orders and few words on their way are held to it.
func TestAllSmallWorldsAtRest(t *testing.T) {
	list := []struct {
		n, words, lives int
		orders          []string
	}{
		{1, 3, 2, []string{"a=1"}},
		{1, 2, 1, []string{"a=1", "a=2"}},
		{1, 1, 2, []string{"a=1", "-a b=1"}},
		{2, 2, 2, []string{"a=1 b=1"}},
		{2, 1, 1, []string{"a=1 b=1", "-b"}},
		{1, 1, 1, []string{"a=1 b=1", "-a b=2", "a=3"}},
	}
	runs := make([]seen, len(list))
	t.Run("worlds", func(t *testing.T) {
		for i, x := range list {
			t.Run(fmt.Sprint(x), func(t *testing.T) {
				t.Parallel()
				rests := seen{}
				m := allWorlds(t, x.n, x.words, x.lives, x.orders, func(w impl.World) string {
					rests.noteRest(w)
					return unlikeAtRest(w)
				})
				m["rest"], m["rest with pairs"] = rests["rest"], rests["rest with pairs"]
				runs[i] = m
			})
		}
	})
	for _, run := range runs {
		run.atLeast(t, 30, "rest", "rest with pairs", "hear", "drop", "held", "done", "gone", "crash kept nothing", "crash kept all")
	}
}

// Of worlds that are not at rest the two may part: what is told to some shards alone, and what is not sure.
func TestTablesPartWhereNothingRests(t *testing.T) {
	from := rand.New(rand.NewSource(141))
	m := seen{}
	for run := range 60 {
		w := impl.WorldNew(1 + run%8)
		for range 100 {
			w, _ = impl.Do(w, roughEvent(from, w))
			goesByHand(t, "rough", w)
			m.noteIf("unlike", !slices.Equal(impl.Tables(w), impl.Model(w)))
		}
	}
	m.atLeast(t, 200, "unlike")
}

// Worlds that are not right are answered all the same, by the chapter's words.
func TestWrongWorldsHaveTables(t *testing.T) {
	m := seen{}
	for what, w := range wrongWorlds(t) {
		goesByHand(t, what, w)
		m[fmt.Sprint("Resting ", impl.Resting(w))]++
		m.noteIf("a model", len(impl.Model(w)) > 0)
		m.noteIf("tables", len(impl.Tables(w)) > 0)
	}
	m.atLeast(t, 10, "Resting true", "Resting false", "a model", "tables")
	from := rand.New(rand.NewSource(142))
	for run := range 400 {
		w := impl.WorldNew(1 + run%4)
		for range 20 + from.Intn(80) {
			w, _ = impl.Do(w, roughEvent(from, w))
		}
		for range 1 + from.Intn(4) {
			w = bent(t, from, w)
			goesByHand(t, "bent", w)
		}
	}
}

// As much as a right world may have, and more than that.
func TestTablesOfFullWorlds(t *testing.T) {
	w := impl.WorldNew(8)
	for i := range mostBegun {
		w.Begun = append(w.Begun, impl.Order{Tx: 1000 + i, Ops: opsOf(fmt.Sprintf("a=%d b%03d=1 c=1 d=1 e=1 f=1 g=1 h%03d=%d", i, i%300, i%150, i))})
		w.C.Log = append(w.C.Log, impl.Choice{Tx: 1999 - i, Yes: true})
	}
	w.C.Life, w.C.Sure, w.Net, w.Outs = 2, mostChoices, asking(mostNet), asking(mostNet)
	isWorld(t, "full", true, w)
	goesByHand(t, "full", w)
	if got, _ := gotByHand(impl.Model(w), "a"); got != "0" {
		t.Errorf("the last choice puts %q", got)
	}
	for range 3 {
		w.C.Log, w.Begun, w.Shards = append(w.C.Log, w.C.Log...), append(w.Begun, w.Begun...), append(w.Shards, w.Shards...)
	}
	w.C.Log, w.C.Sure, w.Begun = w.C.Log[:1500], math.MaxInt, w.Begun[:2500]
	goesByHand(t, "beyond that", w)
}

func TestTablesLeaveTheirArgument(t *testing.T) {
	worlds := []impl.World{{}, impl.WorldNew(1), impl.WorldNew(8), busyWorld(t), holding(t), settled(t), tabled("a=1"), tabled("g=1", "a=2 c=3", "c=1 a=5"), tabled("c=1 b=2 a=3 c=4")}
	worlds = append(worlds,
		changed(settled(t), func(w *impl.World) { w.C.Sure = math.MaxInt }),
		changed(settled(t), func(w *impl.World) { w.C.Sure = -1 }),
		changed(settled(t), func(w *impl.World) { slices.Reverse(w.Shards) }),
		changed(busyWorld(t), func(w *impl.World) { slices.Reverse(w.Shards) }),
		changed(settled(t), func(w *impl.World) { w.Begun = append(w.Begun, begunOf("1000 a=2 b=3; 1000 -g")...) }),
		impl.World{C: coordOf(3, 1, 9, "", "1000+ 1002+ 1003+ 1004+", 4), Begun: begunOf(fewOrders)},
		impl.World{C: coordOf(3, 1, 9, "", "1000+", 1), Begun: begunOf("1000 a=1 b=2")})
	for _, what := range []string{"N 4", "a shard too many", "begun twice 3", "C: a job twice", "shard: Held twice", "N -1"} {
		worlds = append(worlds, wrongWorlds(t)[what])
	}
	for i, w := range worlds {
		what := fmt.Sprint("world ", i)
		given := withSpare(w)
		before := wholeOf(given)
		answers := []any{given}
		for range 2 {
			model, tables := impl.Model(given), impl.Tables(given)
			if !slices.Equal(model, modelByHand(w)) || !slices.Equal(tables, tablesByHand(w)) || impl.Resting(given) != restingByHand(w) {
				t.Errorf("%s: Model is %v, Tables %v, Resting %v", what, model, tables, impl.Resting(given))
			}
			for _, key := range keysIn(w) {
				val, there := readByHand(w, key)
				reads(t, what, given, key, val, there)
			}
			answers = append(answers, model, tables)
		}
		if !reflect.DeepEqual(wholeOf(given), before) {
			t.Errorf("%s: written into", what)
		}
		shareNothing(t, what, answers...)
		for _, l := range answers[1:] {
			spoilPairs(l.([]impl.Pair)[:cap(l.([]impl.Pair))])
		}
		if !reflect.DeepEqual(wholeOf(given), before) {
			t.Errorf("%s: an answer is the world's own memory", what)
		}
	}
}

// What lies behind the end of a list is in no table, decides nothing and holds nothing open.
func TestWhatLiesBehindTheEndIsInNoTable(t *testing.T) {
	base := worldOf(t, 3, "c 1 9 : : 1000+ 1001- : 2 \n 1 : 1000 a=1; 1000+ : 2 \n begun : 1000 a=1; 1001 b=1")
	makes(t, "as it is", base, "a=1", "a=1", true)
	for what, change := range map[string]func(w *impl.World){
		"a choice":               func(w *impl.World) { w.C.Log = append(w.C.Log, logOf("1001+")...)[:2] },
		"a choice within Sure":   func(w *impl.World) { w.C.Log, w.C.Sure = append(w.C.Log, logOf("1001+")...)[:2], 3 },
		"an order":               func(w *impl.World) { w.Begun = append(w.Begun, begunOf("1000 z=1")...)[:2] },
		"a put":                  func(w *impl.World) { w.Begun[0].Ops = append(w.Begun[0].Ops, opsOf("z=1 -a")...)[:1] },
		"a pair":                 func(w *impl.World) { w.Shards[1].Map = append(w.Shards[1].Map, pairsOf("a=2 b=2 d=2")...)[:1] },
		"pairs of another shard": func(w *impl.World) { w.Shards[0].Map = pairsOf("a=2 g=2")[:0] },
		"a shard":                func(w *impl.World) { w.Shards = append(w.Shards, tabled("a=2 z=2").Shards...)[:3] },
		"what is held":           func(w *impl.World) { w.Shards[1].Held = recsOf("7 z=1")[:0] },
		"a job":                  func(w *impl.World) { w.C.Jobs = jobsOf("1002 a=1 / asks")[:0] },
	} {
		w := changed(base, change)
		makes(t, what, w, "a=1", "a=1", true)
		for _, key := range []string{"b", "d", "g", "z"} {
			reads(t, what, w, key, "", false)
		}
	}
	makes(t, "all shards", changed(base, func(w *impl.World) { w.Shards = w.Shards[:0] }), "a=1", "", true)
	makes(t, "all choices", changed(base, func(w *impl.World) { w.C.Log = w.C.Log[:0] }), "", "a=1", true)
	makes(t, "all orders", changed(base, func(w *impl.World) { w.Begun = w.Begun[:0] }), "", "a=1", true)
}
