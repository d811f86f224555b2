package tests

import (
	"bytes"
	"hash/fnv"
	"math"
	"math/rand"
	"slices"
	"strconv"
	"strings"
	"testing"

	"loop.example/g00244/impl"
)

// opsOf reads orders from words: K=V puts, -K takes away (-K=V with a Val, which no right order has), K?V needs, and N:K=V has the Kind N.
func opsOf(text string) []impl.Op {
	list := []impl.Op{}
	for _, word := range strings.Fields(text) {
		o := impl.Op{Kind: impl.OpPut}
		if kind, rest, ok := strings.Cut(word, ":"); ok {
			o.Kind, _ = strconv.Atoi(kind)
			word = rest
		} else if strings.HasPrefix(word, "-") {
			o.Kind = impl.OpDel
			word = word[1:]
		} else if strings.Contains(word, "?") {
			o.Kind = impl.OpNeed
			word = strings.Replace(word, "?", "=", 1)
		}
		o.Key, o.Val, _ = strings.Cut(word, "=")
		list = append(list, o)
	}
	return list
}

// manyOps gives n orders that rise, of all three kinds in turn.
func manyOps(n int) []impl.Op {
	list := []impl.Op{}
	for i := range n {
		o := impl.Op{Kind: 1 + i%3, Key: "k" + strconv.Itoa(10+i), Val: strings.Repeat("v", i%21)}
		if o.Kind == impl.OpDel {
			o.Val = ""
		}
		list = append(list, o)
	}
	return list
}

// opsWithRoom gives l with spare room behind it, and the whole memory, so that a write into either is seen.
// What lies in the room would count, if it were read.
func opsWithRoom(l []impl.Op) (given []impl.Op, whole []impl.Op) {
	whole = append(slices.Clone(l), opsOf("a=room -b c?room d? zz=room -zzz a=room")...)
	return whole[:len(l)], whole
}

var rightOrders = []string{
	"b=9", "b=", "-b", "b?1", "b?", "a=9 b=8 c=7", "-a -b -c", "a? b?1 c?", "a=1 -b c?3 d?", "-b c=9 d?2", "b?1 d=9 e? -f", "a=b b=a",
	"0=1 9=2 a=3 aa=4 b=5 ba=6 c=7 d=8", "-a -b -ba -c -c0 -d -e -f", "a9? aa?4 b?1 b0? ba?2 c? d?2 z?", "abcdefghijkl=12345678901234567890", "b?12345678901234567890",
}

// wrongOrders: lists that are not OpsOk. Meets, Apply, OpsFor and ShardsOf answer of them by their words all the same.
var wrongOrders = []string{
	"", "b=1 b=2", "b=1 -b", "-b b=1", "b?1 b?1", "b?1 b?2", "b?1 b?", "b? b=1", "b=1 b?1", "a=1 b=2 b=3", "a=1 b=2 a=3", "-b -b",
	"b=1 a=2", "-c b=1", "a=1 c=2 b=3", "c=1 a=2 b=3", "aa=1 a=2", "a=1 9=2", "d?2 b?1", "f=1 d=2 b=3",
	"=1", "-", "?", "=1 a=2", "-A", "A=1 a=2", "a=1 b!=2", "{?", "thirteensigns=1", "-thirteensigns", "a=1 thirteensigns?",
	"-b=1", "a=1 -b=2 c=3", "b=123456789012345678901", "b?123456789012345678901", "a=1 b=123456789012345678901", "-b=123456789012345678901",
	"0:b=1", "4:b=1", "-1:b=1", "5:b", "100:b=1", "a=1 0:b=2", "a=1 4:b=2 c?3", "-3:b", "0:b", "257:b=1", "2:b=1",
	"a=1 b=2 c=3 d=4 e=5 f=6 g=7 h=8 i=9", "i=1 h=2 g=3 f=4 e=5 d=6 c=7 b=8 a=9 0=10", "b? b? b? b? b? b? b? b? b?",
}

var shardCounts = []int{math.MinInt, -8, -1, 0, 1, 2, 3, 5, 7, 8, 9, 64, 1000, 1 << 32, math.MaxInt}

func shardByFnv(key string, n int) int {
	if n < 1 {
		return 0
	}
	h := fnv.New32a()
	h.Write([]byte(key))
	return int(uint64(h.Sum32()) % uint64(n))
}

// needsByHand goes by the chapter's words: the key must have the value, or not be there.
func needsByHand(m []impl.Pair, l []impl.Op) bool {
	for _, o := range l {
		at := slices.IndexFunc(m, func(p impl.Pair) bool { return p.Key == o.Key })
		switch {
		case o.Kind != impl.OpNeed:
		case o.Val == "" && at >= 0, o.Val != "" && (at < 0 || m[at].Val != o.Val):
			return false
		}
	}
	return true
}

func doneByHand(m []impl.Pair, l []impl.Op) []impl.Pair {
	for _, o := range l {
		if o.Kind == impl.OpPut {
			m = impl.PutKey(m, o.Key, o.Val)
		}
		if o.Kind == impl.OpDel {
			m = impl.DelKey(m, o.Key)
		}
	}
	return m
}

// opsBytes writes any orders, with a number in front that may be another one.
func opsBytes(count int, l []impl.Op) []byte {
	b := impl.PutNum(nil, count)
	for _, o := range l {
		b = impl.PutText(impl.PutText(impl.PutNum(b, o.Kind), o.Key), o.Val)
	}
	return b
}

func areOps(t *testing.T, want bool, l []impl.Op) {
	t.Helper()
	if impl.OpsOk(l) != want {
		t.Errorf("OpsOk of %#v is %v", l, !want)
	}
	b := impl.PutOps(l)
	if want && !bytes.Equal(b, opsBytes(len(l), l)) || !want && len(b) != 0 {
		t.Errorf("PutOps of %#v is %x", l, b)
	}
}

func noOps(t *testing.T, what string, b []byte) {
	t.Helper()
	if l, ok := impl.GetOps(b); ok || len(l) != 0 {
		t.Errorf("%s: GetOps of %x: %#v %v", what, b, l, ok)
	}
}

func TestKindsOfOrders(t *testing.T) {
	if impl.OpPut != 1 || impl.OpDel != 2 || impl.OpNeed != 3 {
		t.Error("the kinds are", impl.OpPut, impl.OpDel, impl.OpNeed)
	}
	for kind := -300; kind <= 300; kind++ {
		areOps(t, kind >= 1 && kind <= 3, []impl.Op{{Kind: kind, Key: "b"}})
		areOps(t, kind >= 1 && kind <= 3, []impl.Op{{Kind: impl.OpPut, Key: "a"}, {Kind: kind, Key: "b"}, {Kind: impl.OpDel, Key: "c"}})
		areOps(t, kind == 1 || kind == 3, []impl.Op{{Kind: kind, Key: "b", Val: "1"}})
	}
	for _, kind := range []int{math.MinInt, math.MaxInt, 1 << 32, 1<<32 + 1, 1<<62 + 2} {
		areOps(t, false, []impl.Op{{Kind: kind, Key: "b"}})
	}
}

func TestOrdersThatAreRight(t *testing.T) {
	for _, text := range rightOrders {
		areOps(t, true, opsOf(text))
	}
	for size := range 30 {
		val := strings.Repeat("\xff", size)
		areOps(t, size <= 20, []impl.Op{{Kind: impl.OpPut, Key: "a", Val: val}})
		areOps(t, size <= 20, []impl.Op{{Kind: impl.OpNeed, Key: "a", Val: val}})
		areOps(t, size == 0, []impl.Op{{Kind: impl.OpDel, Key: "a", Val: val}})
	}
	areOps(t, true, []impl.Op{{Kind: impl.OpPut, Key: "a", Val: "\x00 =?-\n\u00e4"}, {Kind: impl.OpNeed, Key: "b", Val: "\x00"}})
	areOps(t, false, []impl.Op{{Kind: impl.OpDel, Key: "a", Val: "\x00"}})
}

func TestOrdersThatAreWrong(t *testing.T) {
	areOps(t, false, nil)
	areOps(t, false, []impl.Op{{}})
	for _, text := range wrongOrders {
		areOps(t, false, opsOf(text))
	}
	for kind := 1; kind <= 3; kind++ {
		for _, key := range someKeys {
			areOps(t, impl.KeyOk(key), []impl.Op{{Kind: kind, Key: key}})
		}
		for size := range 20 {
			areOps(t, size >= 1 && size <= 12, []impl.Op{{Kind: kind, Key: strings.Repeat("k", size)}})
		}
	}
}

func TestHowManyOrders(t *testing.T) {
	for n := range 70 {
		areOps(t, n >= 1 && n <= 8, manyOps(n))
	}
	for i := range 7 {
		list := manyOps(8)
		list[i], list[i+1] = list[i+1], list[i]
		areOps(t, false, list)
		list[i+1] = list[i]
		areOps(t, false, list)
	}
	for i := range 8 {
		list := manyOps(8)
		list[i].Kind = 4
		areOps(t, false, list)
		list[i] = impl.Op{Kind: impl.OpPut, Key: manyOps(8)[i].Key, Val: strings.Repeat("v", 21)}
		areOps(t, false, list)
		list[i] = impl.Op{Kind: impl.OpDel, Key: manyOps(8)[i].Key, Val: "v"}
		areOps(t, false, list)
	}
}

func TestNeeds(t *testing.T) {
	const pairs = "b=1 d=2 f="
	for _, x := range []struct {
		pairs, orders string
		want          bool
	}{
		{pairs, "b?1", true}, {pairs, "d?2", true}, {pairs, "b?2", false}, {pairs, "b?11", false}, {pairs, "a?1", false}, {pairs, "c?2", false}, {pairs, "g?1", false}, {pairs, "f?1", false},
		{pairs, "b?1 d?2", true}, {pairs, "b?1 d?1", false}, {pairs, "b?2 d?2", false}, {pairs, "b?1 c?2 d?2", false},
		{"", "b?1", false}, {"b=0", "b?0", true}, {"b=00", "b?0", false}, {"ba=1", "b?1", false},
		{pairs, "b=9", true}, {pairs, "-b", true}, {pairs, "-a", true}, {"", "b=9 -c", true}, {pairs, "a=9 b?1 -c d?2", true}, {pairs, "a=9 b?9 -c d?2", false},
		{pairs, "b=9 d?2", true}, {pairs, "-b d?1", false}, {pairs, "a=1 c?3", false},
	} {
		if got := impl.Meets(pairsOf(x.pairs), opsOf(x.orders)); got != x.want {
			t.Errorf("Meets(%q, %q) is %v", x.pairs, x.orders, got)
		}
	}
}

func TestNeedsOfNothing(t *testing.T) {
	for _, x := range []struct {
		pairs, orders string
		want          bool
	}{
		{"", "b?", true}, {"a=1 c=2", "b?", true}, {"ba=1", "b?", true}, {"a=", "b?", true},
		{"b=1", "b?", false}, {"b=", "b?", false}, {"a=1 b= c=2", "b?", false}, {"a= b= c=", "a?", false}, {"a= b= c=", "c?", false},
		{"a=1", "b? c? d?", true}, {"c=", "b? c? d?", false}, {"d=1", "b? c? d?", false}, {"b=", "b? c? d?", false},
		{"a=1", "a?1 b?", true}, {"a=1 b=", "a?1 b?", false}, {"b=2", "a? b?2", true}, {"a= b=2", "a? b?2", false},
		{"a=1 b= b=2", "b?", false}, {"c=1 b=", "b?", false}, {"=1", "?", false}, {"a=1", "?", true},
	} {
		if got := impl.Meets(pairsOf(x.pairs), opsOf(x.orders)); got != x.want {
			t.Errorf("Meets(%q, %q) is %v", x.pairs, x.orders, got)
		}
	}
	if !impl.Meets(nil, opsOf("b?")) || impl.Meets(nil, opsOf("b?1")) || !impl.Meets(nil, nil) || !impl.Meets(pairsOf("a=1"), nil) {
		t.Error("no pairs, or no orders")
	}
	empty := impl.Apply(nil, opsOf("b="))
	if impl.Meets(empty, opsOf("b?")) || !impl.Meets(impl.Apply(empty, opsOf("-b")), opsOf("b?")) {
		t.Error("an empty value that is put is there until it is taken away")
	}
}

func TestNeedsOfAnyOrders(t *testing.T) {
	held := 0
	for _, pairs := range pairLists {
		for _, orders := range slices.Concat(rightOrders, wrongOrders) {
			got := impl.Meets(pairsOf(pairs), opsOf(orders))
			if got != needsByHand(pairsOf(pairs), opsOf(orders)) {
				t.Errorf("Meets(%q, %q) is %v", pairs, orders, got)
			}
			if got && strings.Contains(orders, "?") {
				held++
			}
		}
	}
	if held < 30 {
		t.Errorf("%d needs hold", held)
	}
}

func TestWhatOrdersDo(t *testing.T) {
	for _, x := range []struct{ pairs, orders, want string }{
		{"", "b=1", "b=1"}, {"", "b=", "b="}, {"", "-b", ""}, {"", "b?", ""}, {"", "b?1", ""},
		{"b=1 d=2", "c=9", "b=1 c=9 d=2"}, {"b=1 d=2", "a=9", "a=9 b=1 d=2"}, {"b=1 d=2", "e=9", "b=1 d=2 e=9"},
		{"b=1 d=2", "b=9", "b=9 d=2"}, {"b=1 d=2", "d=", "b=1 d="}, {"b=1 d=2", "b=1", "b=1 d=2"},
		{"b=1 d=2", "-b", "d=2"}, {"b=1 d=2", "-d", "b=1"}, {"b=1 d=2", "-c", "b=1 d=2"}, {"b=1", "-b", ""}, {"b=", "-b", ""},
		{"b=1 d=2", "b?1", "b=1 d=2"}, {"b=1 d=2", "b?9", "b=1 d=2"}, {"b=1 d=2", "b?", "b=1 d=2"}, {"b=1 d=2", "c?3", "b=1 d=2"},
		{"b=1 d=2", "a=3 -b c=4 d?9", "a=3 c=4 d=2"}, {"b=1 d=2", "-b -d", ""}, {"b=1 d=2", "-a b=3 -c d=4 -e", "b=3 d=4"},
		{"b=1 d=2", "a=1 b=2 c=3 d=4 e=5 f=6 g=7 h=8", "a=1 b=2 c=3 d=4 e=5 f=6 g=7 h=8"},
		{"b=1 d=2", "b=12345678901234567890", "b=12345678901234567890 d=2"},
		{"b=1", "b=2 b=3", "b=3"}, {"b=1", "b=2 -b", ""}, {"b=1", "-b b=2", "b=2"}, {"", "b=1 a=2", "a=2 b=1"}, {"a=1", "b=2 -b=9", "a=1"},
		{"b=1", "0:b=2 4:b=3 -1:b", "b=1"}, {"b=1", "b=123456789012345678901", "b=123456789012345678901"}, {"b=1", "=2 A=3", "=2 A=3 b=1"}, {"=1 A=2 b=3", "- -A", "b=3"},
		{"b=1 b=2", "b=9", "b=9 b=2"}, {"b=1 a=2 b=3", "-b", "a=2"}, {"d=1 b=2", "c=3", "c=3 d=1 b=2"},
		{"", "i=1 h=2 g=3 f=4 e=5 d=6 c=7 b=8 a=9", "a=9 b=8 c=7 d=6 e=5 f=4 g=3 h=2 i=1"},
	} {
		if got := impl.Apply(pairsOf(x.pairs), opsOf(x.orders)); !slices.Equal(got, pairsOf(x.want)) {
			t.Errorf("Apply(%q, %q) = %q", x.pairs, x.orders, got)
		}
	}
	if got := impl.Apply(nil, nil); len(got) != 0 {
		t.Errorf("nothing done with nothing: %q", got)
	}
	if got := impl.Apply(pairsOf("c=1 a=2 c=3"), nil); !slices.Equal(got, pairsOf("c=1 a=2 c=3")) {
		t.Errorf("nothing done: %q", got)
	}
}

func TestBehindOrdersEachKeyHasWhatItsOrderSays(t *testing.T) {
	for _, pairs := range pairLists {
		for _, orders := range rightOrders {
			before, list := pairsOf(pairs), opsOf(orders)
			after := impl.Apply(before, list)
			for _, key := range slices.Concat(someKeys, []string{"c0", "abcdefghijkl"}) {
				want, wantThere := impl.GetKey(before, key)
				if at := slices.IndexFunc(list, func(o impl.Op) bool { return o.Key == key }); at >= 0 {
					switch list[at].Kind {
					case impl.OpPut:
						want, wantThere = list[at].Val, true
					case impl.OpDel:
						want, wantThere = "", false
					}
				}
				if val, there := impl.GetKey(after, key); val != want || there != wantThere {
					t.Errorf("behind %q on %q: %q is %q %v", orders, pairs, key, val, there)
				}
			}
			if impl.PairsOk(before) && !impl.PairsOk(after) {
				t.Errorf("behind %q on %q: %q", orders, pairs, after)
			}
			if impl.Meets(before, list) != impl.Meets(after, list) {
				t.Errorf("behind %q on %q: what is needed is another", orders, pairs)
			}
		}
	}
}

func TestOrdersAreDoneOneByOne(t *testing.T) {
	for _, pairs := range pairLists {
		for _, orders := range slices.Concat(rightOrders, wrongOrders) {
			if got := impl.Apply(pairsOf(pairs), opsOf(orders)); !slices.Equal(got, doneByHand(pairsOf(pairs), opsOf(orders))) {
				t.Errorf("Apply(%q, %q) = %q", pairs, orders, got)
			}
		}
	}
	full := manyPairs(impl.MaxPairs)
	if got := impl.Apply(full, opsOf("a=1 b=2")); len(got) != impl.MaxPairs+2 || !slices.Equal(got[2:], full) {
		t.Errorf("two more than MaxPairs: %q", got)
	}
	if got := impl.Apply(full, opsOf("-k00a k10a=new k20a? -k59a")); len(got) != impl.MaxPairs-2 || got[9] != (impl.Pair{Key: "k10a", Val: "new"}) {
		t.Errorf("on MaxPairs pairs: %q", got)
	}
}

func TestTheShardOfAKey(t *testing.T) {
	keys := slices.Concat(someKeys, []string{"foobar", strings.Repeat("ledger", 100), "\xc3\xa9"})
	for i := range 500 {
		keys = append(keys, "k"+strconv.Itoa(i))
	}
	for _, n := range shardCounts {
		for _, key := range keys {
			if got := impl.ShardOf(key, n); got != shardByFnv(key, n) {
				t.Errorf("ShardOf(%q, %d) = %d", key, n, got)
			}
		}
	}
	for n, want := range map[int]int{1: 0, 8: 0xe40c292c % 8, 1000: 0xe40c292c % 1000, 1 << 32: 0xe40c292c, 0: 0, -1: 0, math.MinInt: 0} {
		if got := impl.ShardOf("a", n); got != want {
			t.Errorf("ShardOf a of %d is %d", n, got)
		}
	}
}

// shardsByHand gives the shards of l, ascending, and the orders of each.
func shardsByHand(l []impl.Op, n int) ([]int, map[int][]impl.Op) {
	shards, parts := []int{}, map[int][]impl.Op{}
	for _, o := range l {
		shard := shardByFnv(o.Key, n)
		if !slices.Contains(shards, shard) {
			shards = append(shards, shard)
		}
		parts[shard] = append(parts[shard], o)
	}
	slices.Sort(shards)
	return shards, parts
}

func haveShards(t *testing.T, l []impl.Op, n int) {
	t.Helper()
	shards, parts := shardsByHand(l, n)
	if got := impl.ShardsOf(l, n); !slices.Equal(got, shards) {
		t.Errorf("ShardsOf(%#v, %d) = %v, not %v", l, n, got, shards)
	}
	asked := append(slices.Clone(shards), math.MinInt, -2, -1, 0, 1, 2, 3, 4, 5, 6, 7, 8, n-1, n, n+1, -n, math.MaxInt)
	for _, shard := range asked {
		if got := impl.OpsFor(l, shard, n); !slices.Equal(got, parts[shard]) {
			t.Errorf("OpsFor(%#v, %d, %d) = %#v, not %#v", l, shard, n, got, parts[shard])
		}
	}
}

func TestOrdersOfEachShard(t *testing.T) {
	for _, n := range shardCounts {
		haveShards(t, nil, n)
		for _, text := range slices.Concat(rightOrders, wrongOrders) {
			haveShards(t, opsOf(text), n)
		}
		for _, count := range []int{1, 2, 7, 8, 9, 60} {
			haveShards(t, manyOps(count), n)
		}
	}
}

func TestShardsByName(t *testing.T) {
	list := opsOf("a=1 -b c?3 d? e=5 f=6 g=7 h=8")
	for _, x := range []struct {
		n     int
		want  []int
		shard int
		part  string
	}{
		{1, []int{0}, 0, "a=1 -b c?3 d? e=5 f=6 g=7 h=8"}, {0, []int{0}, 0, "a=1 -b c?3 d? e=5 f=6 g=7 h=8"}, {-3, []int{0}, 0, "a=1 -b c?3 d? e=5 f=6 g=7 h=8"},
		{2, []int{0, 1}, 0, "a=1 c?3 e=5 g=7"}, {2, []int{0, 1}, 1, "-b d? f=6 h=8"}, {2, []int{0, 1}, 2, ""}, {2, []int{0, 1}, -1, ""},
		{1, []int{0}, 1, ""}, {1, []int{0}, -1, ""}, {0, []int{0}, 1, ""}, {0, []int{0}, -1, ""}, {-3, []int{0}, -3, ""},
		{8, []int{0, 1, 2, 3, 4, 5, 6, 7}, 8, ""},
	} {
		if got := impl.ShardsOf(list, x.n); !slices.Equal(got, x.want) {
			t.Errorf("ShardsOf of %d: %v", x.n, got)
		}
		if got := impl.OpsFor(list, x.shard, x.n); !slices.Equal(got, opsOf(x.part)) {
			t.Errorf("OpsFor %d of %d: %#v", x.shard, x.n, got)
		}
	}
}

// Each order is one of one shard alone, in the order of the list; done shard by shard they make what they make together.
func TestPartsOfOrdersAreTheWhole(t *testing.T) {
	for _, n := range []int{1, 2, 3, 8, 1000} {
		for _, text := range rightOrders {
			list, whole := opsOf(text), []impl.Op{}
			done := pairsOf("b=1 ba=2 c=3 d=4")
			meets := true
			for _, shard := range impl.ShardsOf(list, n) {
				part := impl.OpsFor(list, shard, n)
				if !impl.OpsOk(part) {
					t.Errorf("%q: the part of %d of %d is %#v", text, shard, n, part)
				}
				meets = meets && impl.Meets(done, part)
				done = impl.Apply(done, part)
				whole = append(whole, part...)
			}
			slices.SortFunc(whole, func(a impl.Op, b impl.Op) int { return strings.Compare(a.Key, b.Key) })
			if !slices.Equal(whole, list) {
				t.Errorf("%q: the parts of %d shards are %#v", text, n, whole)
			}
			if !slices.Equal(done, impl.Apply(pairsOf("b=1 ba=2 c=3 d=4"), list)) || meets != impl.Meets(pairsOf("b=1 ba=2 c=3 d=4"), list) {
				t.Errorf("%q: the parts of %d shards make %q %v", text, n, done, meets)
			}
		}
	}
}

func TestOrdersHaveTheirBytes(t *testing.T) {
	for text, want := range map[string]string{
		"a=1":                     "\x01\x01\x01a\x011",
		"a=":                      "\x01\x01\x01a\x00",
		"-ab":                     "\x01\x02\x02ab\x00",
		"a?xyz":                   "\x01\x03\x01a\x03xyz",
		"a?":                      "\x01\x03\x01a\x00",
		"a=1 -b c?3 d?":           "\x04\x01\x01a\x011\x02\x01b\x00\x03\x01c\x013\x03\x01d\x00",
		"abcdefghijkl=12":         "\x01\x01\x0cabcdefghijkl\x0212",
		"a=12345678901234567890":  "\x01\x01\x01a\x1412345678901234567890",
		"-a -b -c -d -e -f -g -h": "\x08\x02\x01a\x00\x02\x01b\x00\x02\x01c\x00\x02\x01d\x00\x02\x01e\x00\x02\x01f\x00\x02\x01g\x00\x02\x01h\x00",
	} {
		if b := impl.PutOps(opsOf(text)); string(b) != want {
			t.Errorf("PutOps(%q) = %q", text, b)
		}
		if l, ok := impl.GetOps([]byte(want)); !ok || !slices.Equal(l, opsOf(text)) {
			t.Errorf("GetOps(%q) = %#v %v", want, l, ok)
		}
	}
}

func TestOrdersComeBackOfTheirBytes(t *testing.T) {
	lists := [][]impl.Op{{{Kind: impl.OpPut, Key: "a", Val: "\x00\xff \x80"}, {Kind: impl.OpNeed, Key: "b", Val: "\x80\x00"}}}
	for _, text := range rightOrders {
		lists = append(lists, opsOf(text))
	}
	for n := 1; n <= 8; n++ {
		lists = append(lists, manyOps(n))
	}
	for _, list := range lists {
		b := impl.PutOps(list)
		if back, ok := impl.GetOps(b); !ok || !slices.Equal(back, list) {
			t.Errorf("%#v come back as %#v %v", list, back, ok)
		}
		for _, more := range []string{"\x00", "\x01", "\x80", "\xff", "a", string(b)} {
			noOps(t, "more behind", append(slices.Clone(b), more...))
		}
		for _, ahead := range []string{"\x00", "\x01", "\x80"} {
			noOps(t, "more ahead", append([]byte(ahead), b...))
		}
		for cut := range b {
			noOps(t, "cut short", b[:cut])
			if back, ok := impl.GetOps(b[cut:]); ok != (cut == 0) {
				t.Errorf("cut at %d in front: %#v", cut, back)
			}
		}
	}
}

func TestNumbersInFrontOfOrders(t *testing.T) {
	for n := range 12 {
		for count := range 20 {
			b := opsBytes(count, manyOps(n))
			back, ok := impl.GetOps(b)
			want := count == n && n >= 1 && n <= 8
			if ok != want || want && !slices.Equal(back, manyOps(n)) || !want && len(back) != 0 {
				t.Errorf("%d orders with %d in front: %#v %v", n, count, back, ok)
			}
		}
		for _, count := range []int{127, 128, 257, 16384, impl.MaxNum} {
			noOps(t, "a great number in front", opsBytes(count, manyOps(n)))
		}
	}
	for _, s := range []string{"", "\x00", "\x01", "\x08", "\x80", "\x80\x00", "\xff\xff\xff\xff\x7f", "\x81\x00\x01\x01a\x011", "\x01\x81\x00\x01a\x011", "\x01\x01\x81\x00a\x011", "\x01\x01\x01a\x81\x001"} {
		noOps(t, "no number", []byte(s))
	}
	noOps(t, "nil", nil)
}

func TestBytesOfWrongOrders(t *testing.T) {
	for _, text := range wrongOrders {
		list := opsOf(text)
		noOps(t, text, opsBytes(len(list), list))
	}
	for _, kind := range []int{0, 4, 5, 127, 128, 129, 257, 258, 259, impl.MaxNum} {
		for at := range 3 {
			list := opsOf("a=1 -b c?3")
			list[at].Kind = kind
			noOps(t, "no such kind", opsBytes(3, list))
		}
	}
	for _, key := range someKeys {
		list := []impl.Op{{Kind: impl.OpDel, Key: key}}
		if back, ok := impl.GetOps(opsBytes(1, list)); ok != impl.KeyOk(key) || ok && !slices.Equal(back, list) {
			t.Errorf("a key %q: %#v %v", key, back, ok)
		}
	}
	for size := range 30 {
		for kind := 1; kind <= 3; kind++ {
			list := []impl.Op{{Kind: kind, Key: "a", Val: strings.Repeat("\x01", size)}}
			want := size <= 20 && kind != impl.OpDel || size == 0
			if back, ok := impl.GetOps(opsBytes(1, list)); ok != want || ok && !slices.Equal(back, list) {
				t.Errorf("kind %d with a Val of %d bytes: %#v %v", kind, size, back, ok)
			}
		}
	}
}

// Whatever is read is right, and has these bytes and no others.
func comesBack(t *testing.T, b []byte) bool {
	t.Helper()
	list, ok := impl.GetOps(b)
	if !ok && len(list) != 0 || ok && (!impl.OpsOk(list) || !bytes.Equal(impl.PutOps(list), b)) {
		t.Errorf("GetOps of %x: %#v %v", b, list, ok)
	}
	return ok
}

func TestBytesComeBackOfWhatWasRead(t *testing.T) {
	read, not := 0, 0
	count := func(b []byte) {
		if comesBack(t, b) {
			read++
		} else {
			not++
		}
	}
	for _, text := range rightOrders {
		b := impl.PutOps(opsOf(text))
		for at := range b {
			for c := range 256 {
				other := slices.Clone(b)
				other[at] = byte(c)
				count(other)
			}
			count(slices.Delete(slices.Clone(b), at, at+1))
			count(slices.Insert(slices.Clone(b), at, b[at]))
			count(slices.Insert(slices.Clone(b), at, 0))
		}
	}
	from := rand.New(rand.NewSource(7))
	for range 100000 {
		b := make([]byte, from.Intn(14))
		for i := range b {
			b[i] = []byte{0, 1, 1, 1, 2, 2, 3, 4, 'a', 'a', 'b', 'b', 'c', '1', 0x80, 0xff}[from.Intn(16)]
		}
		count(b)
	}
	if read < 1000 || not < 1000 {
		t.Errorf("%d were read, %d were not", read, not)
	}
}

func TestOrdersLeaveTheirArguments(t *testing.T) {
	for _, pairs := range pairLists {
		for _, orders := range slices.Concat(rightOrders, wrongOrders) {
			m, wholePairs := pairsWithRoom(pairsOf(pairs))
			l, wholeOps := opsWithRoom(opsOf(orders))
			pairsBefore, opsBefore := slices.Clone(wholePairs), slices.Clone(wholeOps)
			first := impl.Apply(m, l)
			want := impl.Apply(pairsOf(pairs), opsOf(orders))
			if !slices.Equal(first, want) || impl.Meets(m, l) != impl.Meets(pairsOf(pairs), opsOf(orders)) {
				t.Errorf("%q on %q: what lies behind them counts", orders, pairs)
			}
			second := impl.Apply(m, l)
			for i := range second[:cap(second)] {
				second[:cap(second)][i] = impl.Pair{Key: "other", Val: "other"}
			}
			if !slices.Equal(wholePairs, pairsBefore) || !slices.Equal(wholeOps, opsBefore) || !slices.Equal(first, want) {
				t.Errorf("%q on %q: an argument was written into, or the answer shares memory", orders, pairs)
			}
			clear(wholePairs)
			clear(wholeOps)
			if !slices.Equal(first, want) {
				t.Errorf("%q on %q: the answer hangs on its arguments afterwards", orders, pairs)
			}
		}
	}
}

func TestSharingOutLeavesOrders(t *testing.T) {
	for _, n := range []int{-1, 0, 1, 2, 8, 1000} {
		for _, orders := range slices.Concat(rightOrders, wrongOrders) {
			l, whole := opsWithRoom(opsOf(orders))
			before := slices.Clone(whole)
			shards, parts := shardsByHand(opsOf(orders), n)
			if impl.OpsOk(l) != impl.OpsOk(opsOf(orders)) || !slices.Equal(impl.ShardsOf(l, n), shards) {
				t.Errorf("%q, of %d: what lies behind them counts", orders, n)
			}
			told := impl.ShardsOf(l, n)
			for _, shard := range shards {
				first, second := impl.OpsFor(l, shard, n), impl.OpsFor(l, shard, n)
				for i := range second[:cap(second)] {
					second[:cap(second)][i] = impl.Op{Kind: 9, Key: "other", Val: "other"}
				}
				if !slices.Equal(whole, before) || !slices.Equal(first, parts[shard]) {
					t.Errorf("%q, %d of %d: an argument was written into, or the answer shares memory: %#v", orders, shard, n, first)
				}
			}
			kept := impl.OpsFor(l, 0, n)
			clear(whole)
			if !slices.Equal(kept, parts[0]) || !slices.Equal(told, shards) {
				t.Errorf("%q, of %d: the answer hangs on its argument afterwards", orders, n)
			}
		}
	}
}

func TestBytesOfOrdersLeaveTheirArguments(t *testing.T) {
	for _, orders := range slices.Concat(rightOrders, wrongOrders) {
		l, whole := opsWithRoom(opsOf(orders))
		before := slices.Clone(whole)
		put, other := impl.PutOps(l), impl.PutOps(l)
		for i := range other[:cap(other)] {
			other[:cap(other)][i] ^= 0xff
		}
		if !bytes.Equal(put, impl.PutOps(opsOf(orders))) || !slices.Equal(whole, before) {
			t.Errorf("%q: written into, read behind, or shared", orders)
		}
		given, wholeBytes := withRoom(string(put))
		bytesBefore := slices.Clone(wholeBytes)
		back, ok := impl.GetOps(given)
		again, _ := impl.GetOps(given)
		for i := range again[:cap(again)] {
			again[:cap(again)][i] = impl.Op{Kind: 9, Key: "other", Val: "other"}
		}
		if !bytes.Equal(wholeBytes, bytesBefore) {
			t.Errorf("%q: GetOps wrote into its bytes", orders)
		}
		clear(wholeBytes)
		if ok != impl.OpsOk(opsOf(orders)) || ok && !slices.Equal(back, opsOf(orders)) {
			t.Errorf("%q come back as %#v %v", orders, back, ok)
		}
	}
	for _, s := range []string{"\x02\x02\x01a\x00", "\x01\x01\x01a", "\x01\x01", "\x01", ""} {
		whole := append([]byte(s), "\x01\x01b\x011\x02\x01c\x00"...)
		before := slices.Clone(whole)
		noOps(t, "the rest lies behind the bytes", whole[:len(s)])
		if !bytes.Equal(whole, before) {
			t.Errorf("GetOps wrote into %x", whole)
		}
	}
}
