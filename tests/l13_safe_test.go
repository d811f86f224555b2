package tests

import (
	"fmt"
	"math"
	"math/rand"
	"reflect"
	"slices"
	"strings"
	"testing"

	"loop.example/g00244/impl"
)

// safety is what the five questions answer of a world, by their numbers from 1 on, and Safe's number at place 0.
type safety [6]int

func (s safety) with(number int, holds bool) safety {
	if holds {
		s[number] = 1
	}
	return s
}

func safetyOf(w impl.World) safety {
	s := safety{impl.Safe(w)}
	return s.with(1, impl.WorldOk(w)).with(2, impl.NoSplit(w)).with(3, impl.Backed(w)).with(4, impl.Whole(w)).with(5, impl.Promised(w))
}

// noSplitByHand holds each two shards against each other.
func noSplitByHand(w impl.World) bool {
	for i, a := range w.Shards {
		for j, b := range w.Shards {
			for _, done := range a.Log {
				for _, gone := range b.Log {
					if i != j && done.Kind == impl.RecDone && gone.Kind == impl.RecGone && done.Tx == gone.Tx {
						return false
					}
				}
			}
		}
	}
	return true
}

func backedByHand(w impl.World) bool {
	for _, s := range w.Shards {
		for _, r := range s.Log {
			found := false
			for i, x := range w.C.Log {
				found = found || i < w.C.Sure && x == impl.Choice{Tx: r.Tx, Yes: true}
			}
			if r.Kind == impl.RecDone && !found {
				return false
			}
		}
	}
	return true
}

func wholeByHand(w impl.World) bool {
	for _, s := range w.Shards {
		for _, r := range s.Log {
			if r.Kind != impl.RecHold {
				continue
			}
			at := begunByHand(w, r.Tx)
			if at < 0 {
				return false
			}
			if _, parts := shardsByHand(w.Begun[at].Ops, w.C.N); !slices.Equal(parts[s.Id], r.Ops) {
				return false
			}
		}
	}
	return true
}

func promisedByHand(w impl.World) bool {
	for _, x := range w.C.Log {
		if !x.Yes {
			continue
		}
		at := begunByHand(w, x.Tx)
		if at < 0 {
			return false
		}
		shards, _ := shardsByHand(w.Begun[at].Ops, w.C.N)
		for _, shard := range shards {
			found := false
			for place, s := range w.Shards {
				for i, r := range s.Log {
					found = found || place == shard && i < s.Sure && r.Tx == x.Tx && (r.Kind == impl.RecHold || r.Kind == impl.RecDone)
				}
			}
			if !found {
				return false
			}
		}
	}
	return true
}

func safetyByHand(w impl.World) safety {
	s := safety{}.with(1, worldByHand(w)).with(2, noSplitByHand(w)).with(3, backedByHand(w)).with(4, wholeByHand(w)).with(5, promisedByHand(w))
	if at := slices.Index(s[1:], 0); at >= 0 {
		s[0] = 1 + at
	}
	return s
}

// fails asks that of the five questions just these do not hold, and that Safe tells the first of them.
func fails(t *testing.T, what string, w impl.World, numbers ...int) {
	t.Helper()
	want := safety{}
	if len(numbers) > 0 {
		want[0] = slices.Min(numbers)
	}
	for number := 1; number <= 5; number++ {
		want = want.with(number, !slices.Contains(numbers, number))
	}
	got, byHand := safetyOf(w), safetyByHand(w)
	if got != want || byHand != want {
		t.Errorf("%s: Safe and 1 to 5 are %v, by hand %v, not %v:\n%s", what, got, byHand, want, strings.Join(worldTold(w), "\n"))
	}
}

// settled is a world in which 1000 is done on shards 0 and 1, 1001 is gone on shards 1 and 2, and 1002 is held on shards 0 and 2.
func settled(t *testing.T) impl.World {
	t.Helper()
	return worldOf(t, 3, `
		c 1 4 : 1000 a=1 g=1 / yes 0 1; 1001 b=1 c=1 / no 1; 1002 e=1 k=1 / yes 0 2; 1003 f=1 m=1 / asks : 1000+ 1001- 1002+ : 2
		0 : 1000 g=1; 1000+; 1002 k=1 : 3
		1 : 1000 a=1; 1001 b=1; 1000+; 1001- : 4
		2 : 1001-; 1002 e=1; 1003 f=1 : 2
		begun : 1000 a=1 g=1; 1001 b=1 c=1; 1002 e=1 k=1; 1003 f=1 m=1`)
}

// logged gives the records of a text to the shard at a place, whether they fit or not: if they do, Map and Held are what they make.
func logged(t *testing.T, w impl.World, at int, text string, sure int) impl.World {
	t.Helper()
	w = copyWorld(w)
	log, id := recsOf(text), w.Shards[at].Id
	if _, _, ok := replayByHand(log); ok {
		w.Shards[at] = shardBy(t, id, log, sure)
	} else {
		w.Shards[at] = impl.Shard{Id: id, Log: log, Sure: sure}
	}
	return w
}

func changed(w impl.World, change func(w *impl.World)) impl.World {
	w = copyWorld(w)
	change(&w)
	return w
}

func TestWorldsWithNothingInThem(t *testing.T) {
	for n := 1; n <= 8; n++ {
		w := impl.WorldNew(n)
		fails(t, "new", w)
		fails(t, "no shards", changed(w, func(w *impl.World) { w.Shards = nil }), 1)
		fails(t, "words and orders alone", changed(w, func(w *impl.World) {
			w.C.Life, w.Net, w.Begun = 2, asking(mostNet), begunOf("1000 a=1 b=2; 1999 c=1")
		}))
	}
	for _, n := range []int{math.MinInt, -1, 0, 9, math.MaxInt} {
		fails(t, "zero", impl.WorldNew(n), 1)
	}
	w := settled(t)
	fails(t, "settled", w)
	fails(t, "no shards, but choices of yes", changed(w, func(w *impl.World) { w.Shards = nil }), 1, 5)
	fails(t, "no shards, no choices", changed(w, func(w *impl.World) { w.Shards, w.C = nil, impl.CoordNew(3) }), 1)
	fails(t, "no choices, but records that are done", changed(w, func(w *impl.World) { w.C.Log, w.C.Jobs, w.C.Sure = nil, nil, 0 }), 3)
	fails(t, "no records, but choices of yes", changed(w, func(w *impl.World) { w.Shards = impl.WorldNew(3).Shards }), 5)
	fails(t, "no records, choices of no", changed(w, func(w *impl.World) {
		w.Shards, w.C.Jobs, w.C.Log, w.C.Sure = impl.WorldNew(3).Shards, nil, logOf("1000- 1002- 1001-"), 1
	}))
	fails(t, "nothing begun", changed(w, func(w *impl.World) { w.Begun = nil }), 1, 4, 5)
	fails(t, "shards and orders alone", changed(w, func(w *impl.World) { w.C = impl.Coord{} }), 1, 3, 4)
	fails(t, "choices alone", impl.World{C: coordOf(3, 1, 9, "", "1000- 1001-", 2)}, 1)
	fails(t, "a choice of yes alone", impl.World{C: coordOf(3, 1, 9, "", "1000- 1001+", 2)}, 1, 5)
}

func TestTwoShardsDoNotSplit(t *testing.T) {
	for _, x := range []struct {
		zero, one string
		numbers   []int
	}{
		{"1000 g=1; 1000+", "1000 a=1; 1000+", nil},
		{"1000 g=1; 1000+", "1000 a=1", nil},
		{"1000 g=1", "1000 a=1; 1000+", nil},
		{"1000 g=1", "1000 a=1; 1000-", nil},
		{"1000 g=1; 1000-", "1000 a=1; 1000-", nil},
		{"1000 g=1; 1000+", "1000 a=1; 1000-", []int{2}},
		{"1000 g=1; 1000-", "1000 a=1; 1000+", []int{2}},
		{"1000 g=1; 1000+", "1000-", []int{2, 5}},
		{"1000-", "1000 a=1; 1000+", []int{2, 5}},
		{"1000-", "1000-", []int{5}},
		{"1001-; 1000 g=1; 1000+; 1002-", "1000 a=1; 1001-; 1002-; 1000+", nil},
		{"1001-; 1000 g=1; 1002-; 1000+", "1000 a=1; 1001-; 1002-; 1000-; 1003-", []int{2}},
		{"1001-; 1000 g=1; 1000+", "1000 a=1", nil},
		{"1000 g=1; 1000+; 1000-", "1000 a=1", []int{1}},
		{"1000 g=1; 1000+; 1000-", "", []int{1, 5}},
		{"1000 g=1; 1000-; 1000+", "1001-", []int{1, 5}},
		{"1000 g=1; 1000+; 1000-", "1000 a=1; 1000+", []int{1, 2}},
		{"1000 g=1; 1000+; 1000-", "1000 a=1; 1000-", []int{1, 2}},
		{"1000 g=1; 1000+", "1000 a=1; 1000-; 1000+", []int{1, 2}},
		{"1000 g=1; 1000+; 1000-", "1000 a=1; 1000+; 1000-", []int{1, 2}},
	} {
		w := worldOf(t, 3, "c 1 5 : : 1000+ : 1 \n begun : 1000 a=1 g=1; 1001 h=1; 1002 h=1; 1003 h=1")
		zero, one := recsOf(x.zero), recsOf(x.one)
		w = logged(t, logged(t, w, 0, x.zero, len(zero)), 1, x.one, len(one))
		fails(t, x.zero+" / "+x.one, w, x.numbers...)
	}
}

// A record counts whether it is sure or not, whichever two of the shards have it.
func TestSplitsOfAnyTwoShards(t *testing.T) {
	for a := range 8 {
		for b := range 8 {
			for sure := range 3 {
				w := impl.WorldNew(8)
				w.C.Next, w.C.Log, w.C.Sure = 1, logOf("1000+"), 1
				w.Begun = begunOf("1000 a=1 b=1 c=1 d=1 e=1 f=1 g=1 h=1")
				for id := range 8 {
					_, parts := shardsByHand(w.Begun[0].Ops, 8)
					log := []impl.Rec{{Kind: impl.RecHold, Tx: 1000, Ops: parts[id]}}
					if id == a {
						log = append(log, recOf("1000+"))
					} else if id == b {
						log = append(log, recOf("1000-"))
					}
					w.Shards[id] = shardBy(t, id, log, min(sure, len(log)))
				}
				numbers := []int{}
				if a != b {
					numbers = append(numbers, 2)
				}
				if sure == 0 {
					numbers = append(numbers, 5)
				}
				fails(t, fmt.Sprint(a, " did and ", b, " let go, sure ", sure), w, numbers...)
			}
		}
	}
}

func TestWhatIsDoneIsBacked(t *testing.T) {
	for _, x := range []struct {
		log  string
		sure int
		ok   bool
	}{
		{"1000+", 1, true}, {"1000+", 0, false}, {"1000-", 1, false}, {"1000-", 0, false}, {"", 0, false},
		{"1001+", 1, false}, {"1001-", 1, false}, {"1001- 1000+", 2, true}, {"1001- 1000+", 1, false}, {"1000+ 1001-", 1, true}, {"1000+ 1001-", 0, false},
		{"1001- 1000+ 1002-", 2, true}, {"1001- 1000+ 1002-", 3, true}, {"1001- 1000+ 1002-", 1, false}, {"1001- 1000- 1002-", 3, false},
	} {
		for _, sure := range []int{0, 1, 2} {
			w := impl.WorldNew(3)
			w.C.Next, w.C.Log, w.C.Sure = 5, logOf(x.log), x.sure
			w.Begun = begunOf("1001 h=1; 1000 a=1; 1002 h=1")
			w.Shards[1] = shardBy(t, 1, recsOf("1000 a=1; 1000+"), sure)
			numbers := []int{}
			if !x.ok {
				numbers = append(numbers, 3)
			}
			if slices.Contains(w.C.Log, impl.Choice{Tx: 1000, Yes: true}) && sure == 0 || slices.Contains(w.C.Log, impl.Choice{Tx: 1001, Yes: true}) {
				numbers = append(numbers, 5)
			}
			fails(t, fmt.Sprint(x.log, " sure ", x.sure, " ", sure), w, numbers...)
		}
	}
}

func TestTheLastChoiceThatIsSure(t *testing.T) {
	w := impl.WorldNew(3)
	log := []impl.Rec{}
	for i := range 20 {
		tx := 1000 + i
		w.Begun = append(w.Begun, impl.Order{Tx: tx, Ops: opsOf("a=1")})
		w.C.Log = append(w.C.Log, impl.Choice{Tx: tx, Yes: true})
		log = append(log, impl.Rec{Kind: impl.RecHold, Tx: tx, Ops: opsOf("a=1")}, impl.Rec{Kind: impl.RecDone, Tx: tx})
	}
	w.C.Next = 20
	for done := range 21 {
		w.Shards[1] = shardBy(t, 1, log[:2*done], 2*done)
		w.C.Log = w.C.Log[:done]
		for sure := range done + 1 {
			w.C.Sure = sure
			if sure < done {
				fails(t, fmt.Sprint(sure, " of ", done), w, 3)
			} else {
				fails(t, "all sure", w)
			}
		}
		w.C.Log = w.C.Log[:20]
	}
}

// What is sure of a world that is not right is what is there of it.
func TestHowManyAreSureThatAreNotThere(t *testing.T) {
	base := worldOf(t, 3, "c 1 2 : : 1001- 1000+ : 2 \n 1 : 1000 a=1; 1000+ : 2 \n begun : 1000 a=1; 1001 h=1")
	fails(t, "as it is", base)
	for _, sure := range []int{math.MinInt, -1000, -1, 3, 4, 1000, math.MaxInt} {
		numbers := []int{1}
		if sure < 0 {
			numbers = []int{1, 3}
		}
		fails(t, fmt.Sprint("choices ", sure), changed(base, func(w *impl.World) { w.C.Sure = sure }), numbers...)
		if sure < 0 {
			numbers = []int{1, 5}
		}
		fails(t, fmt.Sprint("records ", sure), changed(base, func(w *impl.World) { w.Shards[1].Sure = sure }), numbers...)
	}
	fails(t, "a choice of both, the yes first", changed(base, func(w *impl.World) { w.C.Log, w.C.Sure = logOf("1000+ 1000-"), 1 }), 1)
	fails(t, "a choice of both, the yes behind", changed(base, func(w *impl.World) { w.C.Log, w.C.Sure = logOf("1000- 1000+"), 1 }), 1, 3)
	fails(t, "a choice twice, one sure", changed(base, func(w *impl.World) { w.C.Log, w.C.Sure = logOf("1000+ 1000+"), 1 }), 1)
	fails(t, "a choice twice, none sure", changed(base, func(w *impl.World) { w.C.Log, w.C.Sure = logOf("1000+ 1000+"), 0 }), 1, 3)
}

func TestHoldsAreWhole(t *testing.T) {
	base := impl.WorldNew(3)
	base.C.Next, base.Begun = 3, begunOf("1001 b=2; 1000 -a b? c=1 d=1 g?2; 1002 c=3")
	for _, text := range []string{"1 1000 -a b? d=1", "2 1000 c=1", "1 1001 b=2", "2 1002 c=3"} {
		for sure := range 2 {
			fails(t, text, logged(t, base, int(text[0]-'0'), text[2:], sure))
		}
	}
	for _, text := range []string{
		"1 1000 -a b? d=2", "1 1000 -a b?", "1 1000 b? d=1", "1 1000 -a", "1 1000 a= b? d=1", "1 1000 -a b= d=1", "1 1000 -a bb? d=1", "1 1000 -a b? d=1 h=1",
		"1 1000 -a b? c=1 d=1", "1 1000 c=1", "2 1000 -a b? d=1", "2 1000 -a b? c=1 d=1", "0 1000 c=1", "0 1001 b=2", "2 1001 b=2", "1 1002 c=3",
		"1 1003 b=2", "1 999 b=2", "1 1 b=2", "1 1000000 b=2", "1 2000 -a b? d=1",
		"1 1001 b=1", "2 1001 c=3", "2 1002 c=1", "2 1000 c=3", "1 1001 -a b? d=1", "1 1000 b=2",
	} {
		for sure := range 2 {
			fails(t, text, logged(t, base, int(text[0]-'0'), text[2:], sure), 4)
		}
	}
	fails(t, "its orders, which it does not meet", logged(t, base, 0, "1000 g?2", 1), 1)
	fails(t, "its orders turned round", logged(t, base, 1, "1000 d=1 b? -a", 1), 1, 4)
	fails(t, "no orders", logged(t, base, 1, "1000", 1), 1, 4)
	fails(t, "a number that is none", logged(t, base, 1, "0 b=2", 1), 1, 4)
	fails(t, "another kind of record", logged(t, changed(base, func(w *impl.World) { w.Shards[0].Log = []impl.Rec{{Kind: 4, Tx: 7, Ops: opsOf("z=1")}} }), 1, "1001 b=2", 1), 1)
}

// It is asked of every hold, wherever it stands and whatever came of it; what is done or gone needs no order.
func TestEachHoldIsWhole(t *testing.T) {
	w := worldOf(t, 3, "c 1 3 : : 1000- 1001+ : 2 \n begun : 1000 a=1 c=1; 1001 a=2; 1002 b=1")
	for text, numbers := range map[string][]int{
		"1000 a=1; 1000-; 1001 a=2; 1001+; 1002 b=1":          nil,
		"1000-; 1001 a=2; 1001+; 1002-":                       nil,
		"1000-; 1001 a=2; 1001+; 1002-; 7-; 1003-; 999-":      nil,
		"1000 a=2; 1000-; 1001 a=2; 1001+; 1002 b=1":          {4},
		"1000 a=1; 1000-; 1001 a=1; 1001+; 1002 b=1":          {4},
		"1000 a=1; 1000-; 1001 a=2; 1001+; 1002 b=2":          {4},
		"7 h=1; 1000 a=1; 1000-; 1001 a=2; 1001+; 1002 b=1":   {4},
		"1000 a=1; 1000-; 1001 a=2; 1001+; 1002 b=1; 1003 h=": {4},
		"1001 a=2; 7 h=1; 7-; 1001+":                          {4},
		"1001 a=2; 7+; 1001+":                                 {1, 3},
		"1001 a=2; 1001 a=2; 1001 a=2":                        {1},
		"1001 a=2; 1001 a=2; 1001 a=1":                        {1, 4},
		"1001 a=2; 1002":                                      {1, 4},
	} {
		fails(t, text, logged(t, w, 1, text, len(recsOf(text))), numbers...)
	}
}

// Which orders are a shard's is told by its Id and by how many who decides has, not by where it stands, nor by how many stand there.
func TestHoldsGoByIdAndN(t *testing.T) {
	base := impl.WorldNew(3)
	base.C.Next, base.Begun = 1, begunOf("1000 a=1 c=1 d=1 g=1")
	base = logged(t, base, 1, "1000 a=1 d=1", 1)
	fails(t, "as it is", base)
	for _, id := range []int{math.MinInt, -1, 0, 2, 3, 4, 8, math.MaxInt} {
		fails(t, fmt.Sprint("Id ", id), changed(base, func(w *impl.World) { w.Shards[1].Id = id }), 1, 4)
	}
	fails(t, "shards in another order", changed(base, func(w *impl.World) { slices.Reverse(w.Shards) }), 1)
	fails(t, "another place", changed(base, func(w *impl.World) { w.Shards = w.Shards[1:] }), 1)
	fails(t, "the same shard twice", changed(base, func(w *impl.World) { w.Shards[0] = w.Shards[1] }), 1)
	fails(t, "more shards", changed(base, func(w *impl.World) { w.Shards = append(w.Shards, impl.ShardNew(3)) }), 1)
	for _, n := range []int{1, 2, 4, 5, 7, 8, 9} {
		fails(t, fmt.Sprint("N ", n), changed(base, func(w *impl.World) { w.C.N = n }), 1, 4)
		want := impl.OpsFor(base.Begun[0].Ops, 1, n)
		fails(t, fmt.Sprint("N and orders of ", n), changed(base, func(w *impl.World) { w.C.N, w.Shards[1].Log[0].Ops = n, want }), 1)
	}
	for _, n := range []int{math.MinInt, -1, 0} {
		w := changed(base, func(w *impl.World) { w.C.N = n })
		fails(t, fmt.Sprint("N ", n), w, 1, 4)
		fails(t, "all orders are of shard 0", logged(t, impl.World{C: w.C, Shards: []impl.Shard{{}}, Begun: w.Begun}, 0, "1000 a=1 c=1 d=1 g=1", 1), 1)
	}
	fails(t, "no orders where it has none", changed(base, func(w *impl.World) { w.Shards[0].Log = recsOf("1000") }), 1, 4)
	fails(t, "no orders of an order that has none there", changed(base, func(w *impl.World) { w.Begun[0].Ops, w.Shards[0].Log = opsOf("a=1 c=1 d=1"), recsOf("1000") }), 1)
}

// A world that is not right may have two orders of one number, of which the first counts; and Held is not what a shard wrote down.
func TestOrdersOfOneNumber(t *testing.T) {
	for what, x := range map[string]struct {
		begun   string
		numbers []int
	}{
		"once":                  {"1000 a=1 c=1", nil},
		"twice":                 {"1000 a=1 c=1; 1000 a=1 c=1", []int{1}},
		"another behind":        {"1000 a=1 c=1; 1000 b=1 g=1", []int{1}},
		"another ahead":         {"1000 b=1 g=1; 1000 a=1 c=1", []int{1, 4, 5}},
		"more ahead":            {"1000 a=1 c=1 g=1; 1000 a=1 c=1", []int{1, 5}},
		"less ahead":            {"1000 a=1; 1000 a=1 c=1", []int{1, 4}},
		"another number":        {"1001 b=1; 1000 a=1 c=1; 1001 a=1", []int{1}},
		"nothing ahead":         {"1000; 1000 a=1 c=1", []int{1, 4}},
		"the same, not right":   {"1000 c=1 a=1", []int{1}},
		"more, not right":       {"1000 c=1 a=1 c=1", []int{1, 4}},
		"other numbers":         {"1001 a=1 c=1", []int{1, 4, 5}},
		"a number that is zero": {"0 a=1 c=1", []int{1, 4, 5}},
	} {
		w := worldOf(t, 3, "c 1 2 : : 1000+ : 1 \n 1 : 1000 a=1; 1000+ : 2 \n 2 : 1000 c=1 : 1 \n begun : "+x.begun)
		fails(t, what, w, x.numbers...)
	}
	w := worldOf(t, 3, "c 1 1 : : 1000+ : 1 \n 1 : 1000 a=1 : 1 \n 2 : 1000 c=1 : 1 \n begun : 1000 a=1 c=1")
	fails(t, "as it is", w)
	fails(t, "another is Held", changed(w, func(w *impl.World) { w.Shards[0].Held = recsOf("7 z=1; 1000+; 1000-") }), 1)
	fails(t, "none is Held", changed(w, func(w *impl.World) { w.Shards[1].Held = nil }), 1)
	fails(t, "Held, but not in the Log", changed(w, func(w *impl.World) { w.Shards[1].Log, w.Shards[1].Sure = nil, 0 }), 1, 5)
}

func TestChoicesArePromised(t *testing.T) {
	for _, x := range []struct {
		log     string
		sure    int
		numbers []int
	}{
		{"1000 c=1", 1, nil},
		{"1000 c=1", 0, []int{5}},
		{"1000 c=1; 1000+", 2, nil},
		{"1000 c=1; 1000+", 1, nil},
		{"1000 c=1; 1000+", 0, []int{5}},
		{"1000 c=1; 1000-", 2, nil},
		{"1000 c=1; 1000-", 1, nil},
		{"1000 c=1; 1000-", 0, []int{5}},
		{"1000-", 1, []int{5}},
		{"1000-", 0, []int{5}},
		{"", 0, []int{5}},
		{"1001 e=1", 1, []int{5}},
		{"1001 e=1; 1000 c=1", 2, nil},
		{"1001 e=1; 1000 c=1", 1, []int{5}},
		{"1000 c=1; 1001 e=1", 1, nil},
		{"1002-; 1001 e=1; 1000 c=1; 1000+; 1001-", 5, nil},
		{"1002-; 1001 e=1; 1000 c=1; 1000+; 1001-", 3, nil},
		{"1002-; 1001 e=1; 1000 c=1; 1000+; 1001-", 2, []int{5}},
		{"1000+", 1, []int{1}},
		{"1000+", 0, []int{1, 5}},
		{"1001+; 1001 e=1; 1000+", 3, []int{1, 3}},
	} {
		w := worldOf(t, 3, "c 1 3 : : 1001- 1000+ : 2 \n begun : 1000 a=1 c=1; 1001 e=1; 1002 f=1 \n 1 : 1000 a=1 : 1")
		fails(t, fmt.Sprint(x.log, " sure ", x.sure), logged(t, w, 2, x.log, x.sure), x.numbers...)
	}
}

// A record counts from the moment on at which it is sure, whether the choice is or not.
func TestTheLastRecordThatIsSure(t *testing.T) {
	for at := range 12 {
		for sureChoices, text := range []string{"1000 a=1; 7-; 1001 b=1", "1000 a=1; 1000+; 1001 b=1"} {
			log := append(goneRecs(at), recsOf(text)...)
			for sure := range len(log) + 1 {
				w := worldOf(t, 3, "c 4 0 : : 1000+ : 0 \n begun : 1000 a=1; 1001 b=1")
				w.C.Sure, w.Shards[1] = sureChoices, shardBy(t, 1, log, sure)
				numbers := []int{}
				if sure <= at {
					numbers = append(numbers, 5)
				}
				fails(t, fmt.Sprint("place ", at, " of ", sure), w, numbers...)
			}
		}
	}
}

func TestPromisesOfAllShards(t *testing.T) {
	base := worldOf(t, 3, `
		c 1 3 : : 1000+ 1001- 1002+ : 2
		0 : 1000 g=1; 1000+ : 2
		1 : 1000 a=1; 1002 b=1 : 2
		2 : 1000 c=1; 1002 e=1 : 2
		begun : 1000 a=1 c=1 g=1; 1001 a=1 c=1 g=1; 1002 b=1 e=1`)
	fails(t, "as it is", base)
	for at := range 3 {
		fails(t, fmt.Sprint("forgotten by ", at), logged(t, base, at, "", 0), 5)
		fails(t, fmt.Sprint("the first forgotten by ", at), logged(t, base, at, []string{"1001-", "1002 b=1", "1002 e=1"}[at], 1), 5)
	}
	fails(t, "the second forgotten", logged(t, base, 2, "1000 c=1", 1), 5)
	fails(t, "the second not sure", logged(t, base, 2, "1000 c=1; 1002 e=1", 1), 5)
	fails(t, "no choice of it any more", changed(logged(t, base, 2, "1000 c=1", 1), func(w *impl.World) { w.C.Log = w.C.Log[:2] }))
	fails(t, "a choice of no", changed(logged(t, base, 2, "1000 c=1", 1), func(w *impl.World) { w.C.Log[2].Yes = false }))
	fails(t, "a choice of yes that no shard has", changed(base, func(w *impl.World) { w.C.Log[1].Yes = true }), 5)
	fails(t, "of no order", changed(base, func(w *impl.World) { w.C.Log[1] = impl.Choice{Tx: 1003, Yes: true} }), 1, 5)
	fails(t, "of no, and no order", changed(base, func(w *impl.World) { w.C.Log[1].Tx = 1003 }), 1)
	fails(t, "the order is not there", changed(base, func(w *impl.World) { w.Begun = w.Begun[:2] }), 1, 4, 5)
	fails(t, "an order of nothing", changed(base, func(w *impl.World) { w.C.Log[1].Yes, w.Begun[1].Ops = true, nil }), 1)
	fails(t, "no last shard", changed(base, func(w *impl.World) { w.Shards = w.Shards[:2] }), 1, 5)
	fails(t, "no shards", changed(base, func(w *impl.World) { w.Shards = nil }), 1, 5)
}

// The shards of an order are told by how many who decides has; each is the one at that place.
func TestPromisesGoByPlaces(t *testing.T) {
	base := worldOf(t, 3, "c 1 1 : : 1000+ : 1 \n 1 : 1000 a=1 b=1 : 1 \n begun : 1000 a=1 b=1")
	fails(t, "as it is", base)
	fails(t, "up to its shard", changed(base, func(w *impl.World) { w.Shards = w.Shards[:2] }), 1)
	fails(t, "not up to its shard", changed(base, func(w *impl.World) { w.Shards = w.Shards[:1] }), 1, 5)
	fails(t, "at another place", changed(base, func(w *impl.World) { w.Shards = w.Shards[1:] }), 1, 5)
	fails(t, "in another order", changed(base, func(w *impl.World) { slices.Reverse(w.Shards) }), 1)
	fails(t, "exchanged", changed(base, func(w *impl.World) { w.Shards[0], w.Shards[1] = w.Shards[1], w.Shards[0] }), 1, 5)
	fails(t, "with another Id", changed(base, func(w *impl.World) { w.Shards[1].Id = 2 }), 1, 4)
	// Of two a is at shard 0, b at shard 1; of four too; of eight at 4 and 5; of one both are at shard 0.
	for _, n := range []int{1, 2, 4, 8, 0, -1} {
		fails(t, fmt.Sprint("N ", n), changed(base, func(w *impl.World) { w.C.N = n }), 1, 4, 5)
	}
	for _, n := range []int{0, -1, math.MinInt} {
		fails(t, "all is of shard 0", changed(base, func(w *impl.World) { w.C.N, w.Shards = n, []impl.Shard{{Log: recsOf("1000 a=1 b=1"), Sure: 1}} }), 1)
	}
	for _, n := range []int{9, 1000, math.MaxInt} {
		fails(t, fmt.Sprint("N ", n), changed(base, func(w *impl.World) { w.C.N = n }), 1, 4, 5)
	}
}

// breaks: by the number of what does not hold then, how to bend the world of breakable so that nothing else does not hold.
func breaks(t *testing.T) []func(w impl.World) impl.World {
	more := func(at int, text string) func(w impl.World) impl.World {
		return func(w impl.World) impl.World {
			log := recsTold(w.Shards[at].Log) + "; " + text
			return logged(t, w, at, log, len(recsOf(log)))
		}
	}
	return []func(w impl.World) impl.World{
		1: func(w impl.World) impl.World {
			return changed(w, func(w *impl.World) { w.Net = wordsOf("ask 3 7") })
		},
		2: more(0, "1000-"),
		3: more(1, "1001+"),
		4: more(2, "1005 f=1"),
		5: func(w impl.World) impl.World {
			return changed(w, func(w *impl.World) { w.C.Log = append(w.C.Log, logOf("1002+")...) })
		},
	}
}

func breakable(t *testing.T) impl.World {
	return worldOf(t, 3, `
		c 1 4 : 1003 k=1 / asks : 1000+ 1001+ : 1
		0 : 1000 g=1 : 1
		1 : 1000 a=1; 1000+; 1001 b=1 : 3
		begun : 1000 a=1 g=1; 1001 b=1; 1002 e=1; 1003 k=1`)
}

func TestTheFirstThatDoesNotHold(t *testing.T) {
	fails(t, "as it is", breakable(t))
	for set := range 1 << 5 {
		w, numbers := breakable(t), []int{}
		for number := 1; number <= 5; number++ {
			if set>>(number-1)&1 == 1 {
				w = breaks(t)[number](w)
				numbers = append(numbers, number)
			}
		}
		fails(t, fmt.Sprint(numbers), w, numbers...)
	}
}

func TestWrongWorldsAreAskedAllTheSame(t *testing.T) {
	counts := map[int]int{}
	for what, w := range wrongWorlds(t) {
		got, want := safetyOf(w), safetyByHand(w)
		if got != want || got[0] != 1 {
			t.Errorf("%s: %v, by hand %v", what, got, want)
		}
		for number := 2; number <= 5; number++ {
			counts[number*10+got[number]]++
		}
	}
	for _, key := range []int{21, 31, 41, 51, 30, 40, 50} {
		if counts[key] < 5 {
			t.Errorf("number %d is %d of wrong worlds %d times", key/10, key%10, counts[key])
		}
	}
	for number := 2; number <= 5; number++ {
		w := breaks(t)[1](breaks(t)[number](breakable(t)))
		fails(t, "not right, and more", w, 1, number)
	}
}

// staysSafe plays a text of events, each of which is done, and asks behind each of them.
func staysSafe(t *testing.T, w impl.World, text string) impl.World {
	t.Helper()
	fails(t, "at the beginning", w)
	for _, part := range strings.Split(text, ";") {
		w = does(t, w, eventOf(part), true)
		fails(t, part, w)
	}
	return w
}

func TestOrdersAreSafeAllTheirWay(t *testing.T) {
	voted := "begin a=1 c=1; hear 0; hear 0; sure 1; sure 2; hear 0; hear 0; "
	for _, x := range []struct{ what, events, one, two string }{
		{"told", voted + "decide; tell; hear 0; hear 0; sure 1; sure 2", "1000 a=1; 1000+", "1000 c=1; 1000+"},
		{"asked", voted + "decide; ask 1; hear 0; hear 0; ask 2; hear 0", "1000 a=1; 1000+", "1000 c=1"},
		{"a choice that is lost", voted + "fall 0; ask 1; hear 0; hear 0; ask 2; hear 0; hear 0", "1000 a=1; 1000-", "1000 c=1; 1000-"},
		{"a choice that is kept", voted + "fall 1; ask 1; hear 0; hear 0; ask 2; hear 0; hear 0", "1000 a=1; 1000+", "1000 c=1; 1000+"},
		{"a choice that was sure", voted + "decide; fall 0; ask 1; hear 0; hear 0", "1000 a=1; 1000+", "1000 c=1"},
		{"a vote of an earlier life", "begin a=1 c=1; hear 0; hear 0; sure 1; sure 2; hear 0; fall 9; hear 0; ask 1; hear 0; hear 0; decide; tell", "1000 a=1; 1000-", "1000 c=1"},
		{"a hold and a done that are lost", "begin a=1 c=1; double 0; hear 0; crash 1; hear 0; sure 2; hear 0; hear 0; sure 1; hear 0; decide; tell; hear 0; crash 1; hear 0", "1000 a=1", "1000 c=1; 1000+"},
		{"a hold and a done that are kept", "begin a=1 c=1; hear 0; hear 0; crash 1 1; sure 2; hear 0; tell; hear 0; sure 1; hear 0; decide; tell; hear 0; crash 1 1; hear 0", "1000 a=1; 1000+", "1000 c=1; 1000+"},
		{"a hold behind a gone that is lost", "begin a=1 c=1; double 0; fall; hear 0; ask 1; hear 2; hear 2; crash 1; hear 1; sure 1; hear 1; ask 1; hear 1; hear 1", "1000 a=1; 1000-", ""},
		{"a no", "begin c=1; begin a=1 c=1; hear 0; hear 0; hear 0; sure 2; sure 1; hear 1; decide; tell; double 3; hear 3; hear 3; hear 3; hear 1", "1001 a=1; 1001-", "1000 c=1; 1001-"},
	} {
		w := staysSafe(t, impl.WorldNew(3), x.events)
		if one, two := recsTold(w.Shards[1].Log), recsTold(w.Shards[2].Log); one != x.one || two != x.two || len(w.Shards[0].Log) != 0 {
			t.Errorf("%s: it ends with %q and %q", x.what, one, two)
		}
	}
}

// seen counts what a run of events came by, so that a test can tell that it was not for nothing.
type seen map[string]int

func (m seen) atLeast(t *testing.T, least int, names ...string) {
	t.Helper()
	for _, name := range names {
		if m[name] < least {
			t.Errorf("%s: %d times alone", name, m[name])
		}
	}
}

// note looks at what an event did that could make a world unsafe.
func (m seen) note(w impl.World, e impl.Event, next impl.World) {
	m[eventNames[e.Kind]]++
	switch e.Kind {
	case impl.EvHear:
		m.noteHeard(w, e.At)
	case impl.EvCrash:
		unsure, kept := len(w.Shards[e.At].Log)-w.Shards[e.At].Sure, len(next.Shards[e.At].Log)-w.Shards[e.At].Sure
		m.noteKept("crash", unsure, kept)
	case impl.EvFall:
		m.noteKept("fall", len(w.C.Log)-w.C.Sure, len(next.C.Log)-w.C.Sure)
	}
	for i, s := range next.Shards {
		for _, r := range s.Log[min(len(s.Log), len(w.Shards[i].Log)):] {
			m[[]string{"", "held", "done", "gone"}[r.Kind]]++
		}
	}
}

func (m seen) noteHeard(w impl.World, at int) {
	word := w.Net[at]
	if at > 0 {
		m["heard ahead of others"]++
	}
	if word.Tx < 1000*w.C.Life {
		m["heard of an earlier life: "+nameOf("hold,vote,tell,ask", word.Kind)]++
	}
	standing := map[int]string{impl.HoldDone: "done", impl.HoldGone: "gone", impl.HoldYes: "held", impl.HoldNo: "none"}[outcomeByHand(w.Shards[word.Shard], word.Tx)]
	if word.Kind == impl.WordHold || word.Kind == impl.WordTell {
		m[fmt.Sprint(nameOf("hold,vote,tell,ask", word.Kind), " of one ", standing)]++
	}
	if word.Kind == impl.WordVote && choiceByHand(w.C, word.Tx) >= 0 {
		m["vote behind a choice"]++
	}
}

func (m seen) noteKept(what string, unsure int, kept int) {
	switch {
	case unsure == 0:
		m[what+" of what was sure"]++
	case kept == 0:
		m[what+" kept nothing"]++
	case kept < unsure:
		m[what+" kept some"]++
	default:
		m[what+" kept all"]++
	}
}

// roughOps draws a few orders that rise, mostly of keys that are put.
func roughOps(from *rand.Rand) []impl.Op {
	keys := from.Perm(24)[:1+from.Intn(3)]
	slices.Sort(keys)
	l := []impl.Op{}
	for _, key := range keys {
		o := impl.Op{Kind: []int{impl.OpPut, impl.OpPut, impl.OpPut, impl.OpPut, impl.OpDel, impl.OpNeed}[from.Intn(6)], Key: string(rune('a' + key))}
		if o.Kind == impl.OpPut {
			o.Val = fmt.Sprint(from.Intn(3))
		}
		l = append(l, o)
	}
	return l
}

// roughEvent draws an event of a world in which much is heard, in any order, so that much is done, and of each part something is lost at times.
func roughEvent(from *rand.Rand, w impl.World) impl.Event {
	shares := [...]int{impl.EvBegin: 16, impl.EvHear: 120, impl.EvDrop: 4, impl.EvDouble: 12, impl.EvSure: 24, impl.EvDecide: 7, impl.EvTell: 6, impl.EvAsk: 4, impl.EvCrash: 5, impl.EvFall: 2}
	e := impl.Event{At: from.Intn(w.C.N), N: from.Intn(5) - 1, Ops: roughOps(from)}
	for left := from.Intn(200); left >= shares[e.Kind]; e.Kind++ {
		left -= shares[e.Kind]
	}
	if e.Kind == impl.EvHear || e.Kind == impl.EvDrop || e.Kind == impl.EvDouble {
		e.At = from.Intn(len(w.Net) + 1)
	}
	return e
}

// Of WorldNew, by whatever events: Safe is 0.
func TestWorldsStaySafe(t *testing.T) {
	from := rand.New(rand.NewSource(1313))
	m := seen{}
	for run := range 320 {
		w := impl.WorldNew(1 + run%8)
		for range mostPlay {
			e := roughEvent(from, w)
			if run%4 == 0 {
				e = eventBy(from, w, 4+run%24)
			}
			next, ok := impl.Do(w, e)
			if ok {
				m.note(w, e, next)
			}
			if got := safetyOf(next); got != (safety{0, 1, 1, 1, 1, 1}) || safetyByHand(next) != got {
				t.Fatalf("run %d, %v: %v, by hand %v, behind\n%s\nit is\n%s", run, e, got, safetyByHand(next), strings.Join(worldTold(w), "\n"), strings.Join(worldTold(next), "\n"))
			}
			w = next
		}
		for _, x := range w.C.Log {
			m[fmt.Sprint("chosen ", x.Yes)]++
		}
	}
	m.atLeast(t, 200, eventNames[1:]...)
	m.atLeast(t, 200, "held", "done", "gone", "chosen true", "chosen false", "heard ahead of others", "vote behind a choice")
	m.atLeast(t, 10, "hold of one done", "fall kept some")
	m.atLeast(t, 20, "hold of one gone", "hold of one held", "hold of one none", "tell of one done", "tell of one gone", "tell of one held", "tell of one none")
	m.atLeast(t, 40, "heard of an earlier life: hold", "heard of an earlier life: vote", "heard of an earlier life: tell", "heard of an earlier life: ask")
	m.atLeast(t, 40, "crash of what was sure", "crash kept nothing", "crash kept some", "crash kept all", "fall of what was sure", "fall kept nothing", "fall kept all")
}

// allEvents gives each event that does something in a small world: nothing more is said while this many words are on their way, or wait.
func allEvents(w impl.World, orders []string, words int, lives int) []impl.Event {
	list := []impl.Event{}
	room := len(w.Net) < words
	for at, word := range w.Net {
		list = append(list, impl.Event{Kind: impl.EvDrop, At: at})
		if word.Kind != impl.WordHold || len(w.Outs) < words {
			list = append(list, impl.Event{Kind: impl.EvHear, At: at})
		}
		if room {
			list = append(list, impl.Event{Kind: impl.EvDouble, At: at})
		}
	}
	for at, s := range w.Shards {
		for keep := range len(s.Log) - s.Sure + 1 {
			list = append(list, impl.Event{Kind: impl.EvCrash, At: at, N: keep})
		}
		if room {
			list = append(list, impl.Event{Kind: impl.EvSure, At: at}, impl.Event{Kind: impl.EvAsk, At: at})
		}
	}
	list = append(list, impl.Event{Kind: impl.EvDecide})
	if w.C.Life < lives {
		for keep := range len(w.C.Log) - w.C.Sure + 1 {
			list = append(list, impl.Event{Kind: impl.EvFall, N: keep})
		}
	}
	if room {
		list = append(list, impl.Event{Kind: impl.EvTell})
		if len(w.Begun) < len(orders) {
			list = append(list, impl.Event{Kind: impl.EvBegin, Ops: opsOf(orders[len(w.Begun)])})
		}
	}
	return list
}

// smallKey is the same of two worlds that have the same words on their way, in whatever order: each may be heard first.
func smallKey(w impl.World) string {
	lines := worldTold(w)
	at := 1 + len(w.Shards)
	words := strings.Split(strings.TrimPrefix(lines[at], "net : "), "; ")
	slices.Sort(words)
	lines[at] = strings.Join(words, "; ")
	return strings.Join(lines, "\n")
}

// allWorlds goes through all worlds that come of a new one with these orders, by the events of allEvents; what check tells of one is wrong with it.
func allWorlds(t *testing.T, n int, words int, lives int, orders []string, check func(w impl.World) string) seen {
	m, todo := seen{}, []impl.World{impl.WorldNew(n)}
	known := map[string]int{smallKey(todo[0]): 1}
	for i := 0; i < len(todo); i++ {
		for _, e := range allEvents(todo[i], orders, words, lives) {
			next, ok := impl.Do(todo[i], e)
			if !ok {
				t.Fatalf("%v is refused", e)
			}
			m.note(todo[i], e, next)
			key := smallKey(next)
			if known[key]++; known[key] > 1 {
				continue
			}
			if wrong := check(next); wrong != "" {
				t.Fatalf("%v: %s, behind\n%s\nit is\n%s", e, wrong, strings.Join(worldTold(todo[i]), "\n"), key)
			}
			todo = append(todo, next)
		}
	}
	return m
}

func unsafeOf(w impl.World) string {
	if got := safetyOf(w); got != (safety{0, 1, 1, 1, 1, 1}) {
		return fmt.Sprint(got)
	}
	return ""
}

// All worlds, not some of them, that come of a new one with few orders and few words on their way are safe.
func TestAllSmallWorldsAreSafe(t *testing.T) {
	list := []struct {
		n, words, lives int
		orders          []string
	}{
		{1, 3, 2, []string{"a=1"}},
		{1, 2, 1, []string{"a=1", "a=2"}},
		{2, 2, 2, []string{"a=1 b=1"}},
		{2, 2, 2, []string{"a?1 b=1"}}, // of which one shard never says yes
		{2, 1, 1, []string{"a=1 b=1", "b=2"}},
	}
	runs, m := make([]seen, len(list)), seen{}
	t.Run("worlds", func(t *testing.T) {
		for i, x := range list {
			t.Run(fmt.Sprint(x), func(t *testing.T) {
				t.Parallel()
				runs[i] = allWorlds(t, x.n, x.words, x.lives, x.orders, unsafeOf)
			})
		}
	})
	for i, run := range runs {
		run.atLeast(t, 30, "hear", "drop", "held", "gone", "crash kept nothing", "crash kept all", "tell of one held", "tell of one gone")
		if i != 3 {
			run.atLeast(t, 30, "done", "tell of one done")
		}
		for name, count := range run {
			m[name] += count
		}
	}
	m.atLeast(t, 200, eventNames[2:]...)
	m.atLeast(t, 200, "fall kept nothing", "fall kept all", "heard ahead of others", "vote behind a choice", "hold of one done", "hold of one gone", "tell of one none", "crash kept some")
	m.atLeast(t, 200, "heard of an earlier life: hold", "heard of an earlier life: vote", "heard of an earlier life: tell", "heard of an earlier life: ask")
}

// bentLog adds a record, takes one away, or turns one that ended its transaction.
func bentLog(from *rand.Rand, log []impl.Rec, tx int) []impl.Rec {
	place := from.Intn(len(log) + 1)
	switch kind := from.Intn(6); {
	case kind < 2:
		return slices.Insert(log, place, impl.Rec{Kind: impl.RecDone + kind, Tx: tx})
	case kind == 2:
		return slices.Insert(log, place, impl.Rec{Kind: impl.RecHold, Tx: tx, Ops: opsOf([]string{"a=1", "c=1", "g=1"}[from.Intn(3)])})
	case kind == 3 && place < len(log):
		return slices.Delete(log, place, place+1)
	}
	if at := slices.IndexFunc(log, func(r impl.Rec) bool { return r.Kind != impl.RecHold }); at >= 0 {
		log[at].Kind = impl.RecDone + impl.RecGone - log[at].Kind
	}
	return log
}

// bent changes one thing of a world that is safe; records that fit make its Map and Held then.
func bent(t *testing.T, from *rand.Rand, w impl.World) impl.World {
	w = copyWorld(w)
	at, tx := from.Intn(len(w.Shards)), 1000*(1+from.Intn(w.C.Life))+from.Intn(4)
	s, other := w.Shards[at], from.Intn(len(w.Shards))
	if log := w.Shards[other].Log; len(log) > 0 && from.Intn(3) > 0 {
		tx = log[from.Intn(len(log))].Tx
	}
	switch kind := from.Intn(14); {
	case kind == 0:
		w.C.Sure = from.Intn(len(w.C.Log)+3) - 1
	case kind == 1:
		w.C.Log = slices.Insert(w.C.Log, from.Intn(len(w.C.Log)+1), impl.Choice{Tx: tx, Yes: from.Intn(3) > 0})
	case kind == 2 && len(w.C.Log) > 0:
		w.C.Log[from.Intn(len(w.C.Log))].Yes = from.Intn(2) > 0
	case kind == 3 && len(w.Begun) > 0:
		order := from.Intn(len(w.Begun))
		w.Begun = slices.Delete(w.Begun, order, order+1)
	case kind == 4 && len(w.Begun) > 0:
		w.Begun = append(w.Begun, impl.Order{Tx: w.Begun[from.Intn(len(w.Begun))].Tx, Ops: opsOf("a=1")})
	case kind == 5:
		s, w.Shards[other] = w.Shards[other], s
	case kind == 6:
		s.Sure = from.Intn(len(s.Log)+3) - 1
	default:
		s.Log = bentLog(from, s.Log, tx)
	}
	if _, _, ok := replayByHand(s.Log); ok {
		s = shardBy(t, s.Id, s.Log, s.Sure)
	}
	w.Shards[at] = s
	return w
}

// Whatever is bent in a world, each question is answered by the chapter's words.
func TestBentWorldsGoByTheWords(t *testing.T) {
	from := rand.New(rand.NewSource(131))
	m := seen{}
	for run := range 2500 {
		n := 1 + run%4
		w := impl.WorldNew(n)
		for range 20 + from.Intn(100) {
			w, _ = impl.Do(w, roughEvent(from, w))
		}
		w.C.Jobs = nil
		for range 1 + from.Intn(3) {
			w = bent(t, from, w)
			got, want := safetyOf(w), safetyByHand(w)
			if got != want {
				t.Fatalf("run %d: %v, by hand %v:\n%s", run, got, want, strings.Join(worldTold(w), "\n"))
			}
			m[fmt.Sprint("Safe ", got[0])]++
			for number := 1; number <= 5; number++ {
				m[fmt.Sprint(number, " is ", got[number])]++
			}
		}
	}
	m.atLeast(t, 10, "Safe 0", "Safe 1", "Safe 2", "Safe 3", "Safe 4", "Safe 5")
	m.atLeast(t, 50, "1 is 0", "2 is 0", "3 is 0", "4 is 0", "5 is 0", "1 is 1", "2 is 1", "3 is 1", "4 is 1", "5 is 1")
}

// As much as a right world may have is asked through.
func TestSafetyOfFullWorlds(t *testing.T) {
	w := impl.WorldNew(8)
	ops := opsOf("a=1 b=1 c=1 d=1 e=1 f=1 g=1 h=1")
	_, parts := shardsByHand(ops, 8)
	w.C.Life, w.Net, w.Outs = 2, asking(mostNet), asking(mostNet)
	logs := [8][]impl.Rec{}
	for i := range mostBegun {
		x := impl.Choice{Tx: 1000 + i, Yes: i >= mostBegun-mostRecs/2}
		w.Begun, w.C.Log = append(w.Begun, impl.Order{Tx: x.Tx, Ops: ops}), append(w.C.Log, x)
		for id := range 8 {
			if x.Yes {
				logs[id] = append(logs[id], impl.Rec{Kind: impl.RecHold, Tx: x.Tx, Ops: parts[id]}, impl.Rec{Kind: impl.RecDone, Tx: x.Tx})
			}
		}
	}
	for id := range 8 {
		w.Shards[id] = shardBy(t, id, logs[id], mostRecs-1)
	}
	w.C.Sure = mostChoices
	fails(t, "full", w)
	fails(t, "the last choice is not sure", changed(w, func(w *impl.World) { w.C.Sure-- }), 3)
	fails(t, "the last hold is not sure", changed(w, func(w *impl.World) { w.Shards[7].Sure = mostRecs - 2 }), 5)
	fails(t, "the last is gone", changed(w, func(w *impl.World) { w.Shards[7].Log[mostRecs-1].Kind = impl.RecGone }), 2)
	fails(t, "the last order is another one", changed(w, func(w *impl.World) { w.Begun[mostBegun-1].Ops = ops[:7] }), 4)
}

func TestSafetyLeavesItsArgument(t *testing.T) {
	worlds := []impl.World{{}, impl.WorldNew(1), impl.WorldNew(8), busyWorld(t), holding(t), settled(t), breakable(t)}
	for number := 1; number <= 5; number++ {
		worlds = append(worlds, breaks(t)[number](breakable(t)))
	}
	// Each of these would be answered otherwise, if what lies behind a list's end were read.
	worlds = append(worlds,
		changed(settled(t), func(w *impl.World) { w.C.Sure = math.MaxInt }),
		changed(settled(t), func(w *impl.World) { w.Shards[2].Sure = math.MaxInt }),
		changed(settled(t), func(w *impl.World) { w.C.Sure, w.Shards[0].Sure = -1, -1 }))
	for _, what := range []string{"N 4", "a shard too many", "in Net vote 0 7 a=1", "begun twice 3", "C: a job twice", "shard: Held twice", "N -1"} {
		worlds = append(worlds, wrongWorlds(t)[what])
	}
	for i, w := range worlds {
		given := withSpare(w)
		before := wholeOf(given)
		if first, second, want := safetyOf(given), safetyOf(given), safetyByHand(w); first != want || second != want {
			t.Errorf("world %d: %v, then %v, not %v", i, first, second, want)
		}
		if !reflect.DeepEqual(wholeOf(given), before) {
			t.Errorf("world %d: written into", i)
		}
	}
}

// What lies behind the end of a list neither splits, nor backs, nor holds, nor promises anything.
func TestWhatLiesBehindTheEndIsNotAsked(t *testing.T) {
	base := settled(t)
	fails(t, "a split", changed(base, func(w *impl.World) { w.Shards[0].Log = append(w.Shards[0].Log, recOf("1001+"))[:3] }))
	fails(t, "a hold", changed(base, func(w *impl.World) { w.Shards[2].Log = append(w.Shards[2].Log, recOf("7 z=1"))[:3] }))
	fails(t, "a choice", changed(base, func(w *impl.World) { w.C.Log = append(w.C.Log, logOf("1003+")...)[:3] }))
	fails(t, "a shard", changed(base, func(w *impl.World) {
		w.Shards = append(w.Shards, shardBy(t, 3, recsOf("1000-; 7 z=1"), 1))[:3]
	}))
	fails(t, "a choice that would back", changed(base, func(w *impl.World) { w.C.Jobs, w.C.Log, w.C.Sure = nil, logOf("1000+ 1001-")[:0], 1 }), 1, 3)
	fails(t, "an order that would be it", changed(base, func(w *impl.World) { w.C.Jobs, w.Begun = nil, w.Begun[:2] }), 1, 4, 5)
	fails(t, "a record that would promise", changed(base, func(w *impl.World) { w.Shards[0].Log = w.Shards[0].Log[:2] }), 1, 5)
	fails(t, "a shard that would promise", changed(base, func(w *impl.World) { w.Shards = w.Shards[:2] }), 1, 5)
}
