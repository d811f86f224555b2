package tests

import (
	"fmt"
	"math"
	"math/rand"
	"slices"
	"strconv"
	"strings"
	"testing"

	"loop.example/g00244/impl"
)

const mostRecs = 300

// shardBy gives a shard whose Map and Held are what its records make by hand.
func shardBy(t *testing.T, id int, log []impl.Rec, sure int) impl.Shard {
	t.Helper()
	m, held, ok := replayByHand(log)
	if !ok {
		t.Fatalf("the records do not fit: %v", log)
	}
	return impl.Shard{Id: id, Log: copyRecs(log), Sure: sure, Map: slices.Clone(m), Held: copyRecs(held)}
}

func shardOf(t *testing.T, text string) impl.Shard {
	t.Helper()
	return shardBy(t, 2, recsOf(text), 0)
}

func sameShard(a impl.Shard, b impl.Shard) bool {
	return a.Id == b.Id && a.Sure == b.Sure && sameRecs(a.Log, b.Log) && slices.Equal(a.Map, b.Map) && sameRecs(a.Held, b.Held)
}

func copyShard(s impl.Shard) impl.Shard {
	s.Log, s.Map, s.Held = copyRecs(s.Log), slices.Clone(s.Map), copyRecs(s.Held)
	return s
}

// goneRecs gives n records of transactions that were let go ahead of being held, from 2000 on.
func goneRecs(n int) []impl.Rec {
	list := []impl.Rec{}
	for i := range n {
		list = append(list, impl.Rec{Kind: impl.RecGone, Tx: 2000 + i})
	}
	return list
}

// holdRecs gives n records that hold these many orders each, from transaction 5000 on; no two have a key in common.
func holdRecs(n int, orders int) []impl.Rec {
	list := []impl.Rec{}
	for i := range n {
		r := impl.Rec{Kind: impl.RecHold, Tx: 5000 + i}
		for j := range orders {
			r.Ops = append(r.Ops, impl.Op{Kind: impl.OpPut, Key: fmt.Sprintf("h%04dx%d", i, j), Val: "1"})
		}
		list = append(list, r)
	}
	return list
}

func okByHand(s impl.Shard) bool {
	m, held, ok := replayByHand(s.Log)
	return ok && s.Id >= 0 && s.Id <= 7 && s.Sure >= 0 && s.Sure <= len(s.Log) && len(s.Log)+len(s.Held) <= mostRecs && slices.Equal(m, s.Map) && sameRecs(held, s.Held)
}

func outcomeByHand(s impl.Shard, tx int) int {
	if !okByHand(s) {
		return impl.HoldForm
	}
	code := impl.HoldNo
	for _, r := range s.Log {
		if r.Tx == tx {
			code = map[int]int{impl.RecHold: impl.HoldYes, impl.RecDone: impl.HoldDone, impl.RecGone: impl.HoldGone}[r.Kind]
		}
	}
	return code
}

// writtenByHand does what the record says, without a look at how many pairs there are then.
func writtenByHand(s impl.Shard, r impl.Rec) impl.Shard {
	s = copyShard(s)
	s.Log = append(s.Log, copyRecs([]impl.Rec{r})...)
	if r.Kind == impl.RecHold {
		s.Held = append(s.Held, copyRecs([]impl.Rec{r})...)
	}
	for i, h := range s.Held {
		if h.Tx == r.Tx && r.Kind != impl.RecHold {
			if r.Kind == impl.RecDone {
				s.Map = doneByHand(s.Map, h.Ops)
			}
			s.Held = slices.Delete(s.Held, i, i+1)
			break
		}
	}
	return s
}

// holdByHand goes by the chapter's words, in their order.
func holdByHand(s impl.Shard, tx int, ops []impl.Op) (impl.Shard, int) {
	if !okByHand(s) || tx < 1 || tx > mostTx || !impl.OpsOk(ops) {
		return s, impl.HoldForm
	}
	if code := outcomeByHand(s, tx); code != impl.HoldNo {
		return s, code
	}
	keys := []string{}
	for _, r := range s.Held {
		for _, o := range r.Ops {
			keys = append(keys, o.Key)
		}
	}
	for _, o := range ops {
		if slices.Contains(keys, o.Key) {
			return s, impl.HoldNo
		}
	}
	if !needsByHand(s.Map, ops) || len(s.Map)+len(keys)+len(ops) > 60 || len(s.Log)+1+len(s.Held)+1 > mostRecs {
		return s, impl.HoldNo
	}
	return writtenByHand(s, impl.Rec{Kind: impl.RecHold, Tx: tx, Ops: ops}), impl.HoldYes
}

func decideByHand(s impl.Shard, tx int, yes bool) (impl.Shard, bool) {
	if !okByHand(s) || tx < 1 || tx > mostTx {
		return s, false
	}
	kind := impl.RecGone
	if yes {
		kind = impl.RecDone
	}
	switch outcomeByHand(s, tx) {
	case impl.HoldYes:
		return writtenByHand(s, impl.Rec{Kind: kind, Tx: tx}), true
	case impl.HoldDone:
		return s, yes
	case impl.HoldGone:
		return s, !yes
	}
	if yes || len(s.Log)+len(s.Held) >= mostRecs {
		return s, false
	}
	return writtenByHand(s, impl.Rec{Kind: kind, Tx: tx}), true
}

func crashByHand(s impl.Shard, keep int) impl.Shard {
	if !okByHand(s) {
		return s
	}
	s = copyShard(s)
	for ; keep > 0 && s.Sure < len(s.Log); keep-- {
		s.Sure++
	}
	s.Log = s.Log[:s.Sure]
	s.Map, s.Held, _ = replayByHand(s.Log)
	return s
}

func holds(t *testing.T, s impl.Shard, tx int, ops []impl.Op, code int) impl.Shard {
	t.Helper()
	want, _ := holdByHand(s, tx, ops)
	next, got := impl.Hold(s, tx, ops)
	if got != code || !sameShard(next, want) {
		t.Errorf("Hold of %d %v is %d, not %d: %v", tx, ops, got, code, next)
	}
	return next
}

func decides(t *testing.T, s impl.Shard, tx int, yes bool, ok bool) impl.Shard {
	t.Helper()
	want, _ := decideByHand(s, tx, yes)
	next, got := impl.Decide(s, tx, yes)
	if got != ok || !sameShard(next, want) {
		t.Errorf("Decide of %d, %v, is %v, not %v: %v", tx, yes, got, ok, next)
	}
	return next
}

func crashes(t *testing.T, s impl.Shard, keep int) impl.Shard {
	t.Helper()
	want := crashByHand(s, keep)
	next := impl.CrashShard(s, keep)
	if !sameShard(next, want) {
		t.Errorf("CrashShard keeping %d of %v: %v", keep, s, next)
	}
	return next
}

func hasOutcome(t *testing.T, s impl.Shard, tx int, code int) {
	t.Helper()
	if got := impl.Outcome(s, tx); got != code {
		t.Errorf("Outcome of %d is %d, not %d, of %v", tx, got, code, s)
	}
}

func isShard(t *testing.T, what string, want bool, s impl.Shard) {
	t.Helper()
	if impl.ShardOk(s) != want {
		t.Errorf("%s: ShardOk is %v of %v", what, !want, s)
	}
}

// hasAll asks what a shard is, told by texts.
func hasAll(t *testing.T, s impl.Shard, log string, sure int, pairs string, held string) {
	t.Helper()
	if !sameRecs(s.Log, recsOf(log)) || s.Sure != sure || !slices.Equal(s.Map, pairsOf(pairs)) || !sameRecs(s.Held, recsOf(held)) {
		t.Errorf("%q is %v", log, s)
	}
	isShard(t, log, true, s)
}

func TestCodesOfHolding(t *testing.T) {
	if impl.HoldYes != 1 || impl.HoldNo != 2 || impl.HoldDone != 3 || impl.HoldGone != 4 || impl.HoldForm != 5 {
		t.Error("the codes are", impl.HoldYes, impl.HoldNo, impl.HoldDone, impl.HoldGone, impl.HoldForm)
	}
}

func TestNewShards(t *testing.T) {
	ids := []int{math.MinInt, math.MaxInt, 1 << 32, 1<<32 + 3, -1 << 32}
	for id := -20; id <= 20; id++ {
		ids = append(ids, id)
	}
	for _, id := range ids {
		right := id >= 0 && id <= 7
		want := impl.Shard{}
		if right {
			want.Id = id
		}
		if s := impl.ShardNew(id); !sameShard(s, want) || !impl.ShardOk(s) {
			t.Errorf("ShardNew(%d) = %v", id, s)
		}
		isShard(t, "an Id", right, impl.Shard{Id: id})
		s, code := impl.Hold(impl.Shard{Id: id}, 7, opsOf("a=1"))
		if right != (code == impl.HoldYes) || !right && code != impl.HoldForm || s.Id != id {
			t.Errorf("Hold of a shard %d: %d %v", id, code, s)
		}
	}
}

func TestShardsHoldDoAndLetGo(t *testing.T) {
	s := impl.ShardNew(5)
	hasAll(t, s, "", 0, "", "")
	s = holds(t, s, 7, opsOf("a=1 b=2"), impl.HoldYes)
	hasAll(t, s, "7 a=1 b=2", 0, "", "7 a=1 b=2")
	s = holds(t, s, 3, opsOf("c=3 d?"), impl.HoldYes)
	hasAll(t, s, "7 a=1 b=2; 3 c=3 d?", 0, "", "7 a=1 b=2; 3 c=3 d?")
	s = impl.MakeSure(s)
	s = decides(t, s, 7, true, true)
	hasAll(t, s, "7 a=1 b=2; 3 c=3 d?; 7+", 2, "a=1 b=2", "3 c=3 d?")
	s = decides(t, s, 3, false, true)
	hasAll(t, s, "7 a=1 b=2; 3 c=3 d?; 7+; 3-", 2, "a=1 b=2", "")
	s = decides(t, s, 9, false, true)
	s = holds(t, s, 8, opsOf("a?1 -b c=4"), impl.HoldYes)
	s = decides(t, s, 8, true, true)
	hasAll(t, s, "7 a=1 b=2; 3 c=3 d?; 7+; 3-; 9-; 8 a?1 -b c=4; 8+", 2, "a=1 c=4", "")
	if s.Id != 5 {
		t.Error("the Id is", s.Id)
	}
	for tx, code := range map[int]int{7: impl.HoldDone, 3: impl.HoldGone, 9: impl.HoldGone, 8: impl.HoldDone, 1: impl.HoldNo} {
		hasOutcome(t, s, tx, code)
	}
	for text, code := range map[string]int{"": impl.HoldNo, "7 a=1": impl.HoldYes, "7 a=1; 7+": impl.HoldDone, "7 a=1; 7-": impl.HoldGone, "7-": impl.HoldGone, "8 a=1": impl.HoldNo, "8-; 17-; 70-": impl.HoldNo} {
		hasOutcome(t, shardOf(t, text), 7, code)
	}
}

func TestWhatWasHeldIsNotHeldAgain(t *testing.T) {
	a, c, wrongNeed := opsOf("a=1"), opsOf("c=9"), opsOf("c?9")
	for text, code := range map[string]int{
		"7 a=1": impl.HoldYes, "7 b=2": impl.HoldYes, "6 a=1; 7 b=1": impl.HoldYes, "7 a=1; 8 c=1": impl.HoldYes,
		"7 a=1; 7+": impl.HoldDone, "7 a=1; 7+; 8 a=2": impl.HoldDone, "7 b=1; 7+; 8 a=2 c=1; 8+": impl.HoldDone,
		"7 a=1; 7-": impl.HoldGone, "7-": impl.HoldGone, "7-; 8 a=1 c=1": impl.HoldGone, "8-; 7-; 9-": impl.HoldGone,
	} {
		for _, ops := range [][]impl.Op{a, c, wrongNeed, opsOf("a=1 c=1"), manyOps(8)} {
			s := shardOf(t, text)
			if next := holds(t, s, 7, ops, code); !sameShard(next, s) {
				t.Errorf("%q is %v", text, next)
			}
		}
	}
}

func TestWhatIsRefusedLeavesTheShard(t *testing.T) {
	for _, x := range []struct{ text, ops string }{
		{"7 a=1", "a=1"}, {"7 a=1", "-a"}, {"7 a=1", "a?"}, {"7 a?", "a?"}, {"7 -a", "a=1"}, {"7 a?; 8 b?", "0=1 b=1"}, {"7 a=1 b=2 c=3", "c=4 d=5"}, {"7 b=1; 8 d=1", "a=1 c=1 d=1"}, {"7 a=1; 7+; 8 a=2", "a?1"}, {"7 a=1; 8 b=1; 8+", "a=1"},
		{"", "a?1"}, {"7 a=1; 7+", "a?2"}, {"7 a=1; 7+", "a?"}, {"7 a=; 7+", "a?"}, {"7 a=1; 7-", "a?1"}, {"7 a=1; 7+; 8 -a; 8+", "a?1"}, {"7 a=1", "b?1"}, {"7 a=1; 7+", "a?1 b=1 c?1"}, {"7 a=1; 7+", "a?2 b=1"},
	} {
		s := shardOf(t, x.text)
		if next := holds(t, s, 9, opsOf(x.ops), impl.HoldNo); !sameShard(next, s) {
			t.Errorf("%q and %q: %v", x.text, x.ops, next)
		}
		hasOutcome(t, s, 9, impl.HoldNo)
	}
	for _, x := range []struct{ text, ops string }{{"7 a=1", "b=1"}, {"7 a=1; 7+", "a?1"}, {"7 a=1; 7+", "a=2"}, {"7 a=1; 7-", "a=2"}, {"7 a=1; 7-", "a?"}, {"7 b=1 d=1", "a? c? e?"}, {"7 b=1", "ab=1 b0=1 bb=1"}} {
		holds(t, shardOf(t, x.text), 9, opsOf(x.ops), impl.HoldYes)
	}
}

func TestWhatWasDecidedIsNotTurned(t *testing.T) {
	for _, ahead := range []string{"", "8 z=1; ", "8 z=1; 8+; ", "5-; ", "17 y=1; 17-; 71 x=1; "} {
		for _, x := range []struct {
			text      string
			yes       bool
			ok, wrote bool
		}{
			{"7 a=1", true, true, true}, {"7 a=1", false, true, true},
			{"7 a=1; 7+", true, true, false}, {"7 a=1; 7+", false, false, false},
			{"7 a=1; 7-", false, true, false}, {"7 a=1; 7-", true, false, false},
			{"7-", false, true, false}, {"7-", true, false, false},
			{"", true, false, false}, {"", false, true, true},
			{"7 a=1; 7+; 9 a=2; 9+", false, false, false}, {"7 a=1; 7-; 9 a=2", true, false, false}, {"7-; 9 a=2; 9-", true, false, false},
		} {
			s := shardOf(t, ahead+x.text)
			next := decides(t, s, 7, x.yes, x.ok)
			if sameShard(next, s) == x.wrote || x.wrote && len(next.Log) != len(s.Log)+1 {
				t.Errorf("%q and %v: %v", ahead+x.text, x.yes, next)
			}
			isShard(t, ahead+x.text, true, next)
			twice := decides(t, next, 7, x.yes, x.ok)
			if !sameShard(next, twice) {
				t.Errorf("%q and %v twice: %v", ahead+x.text, x.yes, twice)
			}
			if x.ok {
				decides(t, next, 7, !x.yes, false)
				hasOutcome(t, next, 7, map[bool]int{true: impl.HoldDone, false: impl.HoldGone}[x.yes])
			}
		}
	}
}

func TestGoneAheadOfBeingHeld(t *testing.T) {
	for _, text := range []string{"", "8 b=1", "8 a=1", "8 a=1; 8+", "6-; 8-"} {
		s := decides(t, shardOf(t, text), 7, false, true)
		if !sameRec(s.Log[len(s.Log)-1], recOf("7-")) || len(s.Log) != 1+len(recsOf(text)) {
			t.Errorf("%q: %v", text, s.Log)
		}
		for _, orders := range []string{"a=1", "c=1", "c?", "c?1", "-z"} {
			holds(t, s, 7, opsOf(orders), impl.HoldGone)
		}
		decides(t, s, 7, true, false)
		decides(t, s, 7, false, true)
		hasOutcome(t, s, 7, impl.HoldGone)
		hasOutcome(t, impl.CrashShard(impl.MakeSure(s), 0), 7, impl.HoldGone)
		lost := crashes(t, s, 0)
		hasOutcome(t, lost, 7, impl.HoldNo)
		holds(t, lost, 7, opsOf("a=1"), impl.HoldYes)
	}
}

func TestNumbersOfTransactionsAtAShard(t *testing.T) {
	for tx, want := range map[int]bool{
		1: true, 2: true, 999999: true, mostTx: true,
		0: false, -1: false, mostTx + 1: false, 1<<32 + 1: false, 1 << 32: false, math.MinInt: false, math.MaxInt: false, impl.MaxNum: false,
	} {
		s := shardOf(t, "7 a=1; 8 b=1; 8+; 9-")
		code := impl.HoldForm
		if want {
			code = impl.HoldYes
		}
		hasOutcome(t, s, tx, impl.HoldNo)
		hasOutcome(t, holds(t, s, tx, opsOf("c=1"), code), tx, map[bool]int{true: impl.HoldYes, false: impl.HoldNo}[want])
		decides(t, s, tx, true, false)
		hasOutcome(t, decides(t, s, tx, false, want), tx, map[bool]int{true: impl.HoldGone, false: impl.HoldNo}[want])
	}
}

func TestOrdersThatAShardDoesNotTake(t *testing.T) {
	for _, text := range []string{"", "7 a=1", "7 a=1; 7+", "7 a=1; 7-", "7-"} {
		s := shardOf(t, text)
		for _, wrong := range wrongOrders {
			if next := holds(t, s, 7, opsOf(wrong), impl.HoldForm); !sameShard(next, s) {
				t.Errorf("%q and %q: %v", text, wrong, next)
			}
		}
		for n := range 12 {
			if n < 1 || n > 8 {
				holds(t, s, 7, manyOps(n), impl.HoldForm)
			}
		}
		holds(t, s, 7, nil, impl.HoldForm)
		holds(t, s, 7, []impl.Op{{}}, impl.HoldForm)
	}
	for n := 1; n <= 8; n++ {
		if _, code := impl.Hold(impl.ShardNew(0), 7, holdRecs(1, n)[0].Ops); code != impl.HoldYes {
			t.Errorf("%d orders: %d", n, code)
		}
	}
}

func TestHowManyPairsAShardMayMake(t *testing.T) {
	for pairs := range 61 {
		for _, held := range []struct{ count, orders int }{{0, 0}, {1, 1}, {1, 8}, {3, 1}, {2, 5}, {7, 8}} {
			s := shardBy(t, 1, append(filling(pairs), holdRecs(held.count, held.orders)...), 0)
			for n := 1; n <= 8; n++ {
				code := impl.HoldNo
				if pairs+held.count*held.orders+n <= 60 {
					code = impl.HoldYes
				}
				holds(t, s, 7, opsOf("a=1 b=1 c=1 d=1 e=1 f=1 g=1 ga=1")[:n], code)
			}
		}
	}
	full := shardBy(t, 1, filling(60), 0)
	for _, text := range []string{"k0000=new", "-k0000", "a?", "k0000?0"} {
		holds(t, full, 7, opsOf(text), impl.HoldNo)
	}
	one := shardBy(t, 1, append(filling(58), recsOf("6 a?")...), 0)
	for text, code := range map[string]int{"k0000=new": impl.HoldYes, "-k0000": impl.HoldYes, "b?": impl.HoldYes, "k0000=new k0001=new": impl.HoldNo, "-b -k0000": impl.HoldNo, "b? c?": impl.HoldNo} {
		holds(t, one, 7, opsOf(text), code)
	}
	freed := decides(t, decides(t, one, 6, false, true), 5, false, true)
	holds(t, freed, 7, opsOf("b? c?"), impl.HoldYes)
	holds(t, freed, 7, opsOf("b? c? d?"), impl.HoldNo)
}

// Whatever a shard holds by itself, it can do all of it.
func TestAllThatIsHeldCanBeDone(t *testing.T) {
	s := shardBy(t, 1, filling(20), 0)
	for _, r := range holdRecs(5, 8) {
		s = holds(t, s, r.Tx, r.Ops, impl.HoldYes)
	}
	holds(t, s, 7, opsOf("a=1"), impl.HoldNo)
	for i := range 5 {
		s = decides(t, s, 5000+(i*3)%5, true, true)
		isShard(t, "filled up", true, s)
	}
	if len(s.Map) != 60 || len(s.Held) != 0 {
		t.Errorf("%d pairs, %d held", len(s.Map), len(s.Held))
	}
}

// A shard that holds more keys than Hold would is right, as its records fit; what it holds is done all the same, though it is not right any more behind it.
func TestShardsThatHoldTooMuch(t *testing.T) {
	for pairs := 40; pairs <= 60; pairs++ {
		for _, held := range []struct{ count, orders int }{{1, 1}, {1, 8}, {2, 5}, {3, 8}} {
			s := shardBy(t, 1, append(filling(pairs), holdRecs(held.count, held.orders)...), 3)
			isShard(t, "too much is held", true, s)
			for i := range held.count {
				tooMany := len(s.Map)+held.orders > 60
				isShard(t, "let go", true, decides(t, s, 5000+i, false, true))
				sharesNothing(t, "done", decides(t, s, 5000+i, true, true))
				next := decides(t, s, 5000+i, true, true)
				isShard(t, "done", !tooMany, next)
				if len(next.Map) != len(s.Map)+held.orders || len(next.Held) != len(s.Held)-1 || len(next.Log) != len(s.Log)+1 || next.Sure != 3 {
					t.Errorf("%d pairs and %d orders: %v", len(s.Map), held.orders, next)
				}
				if tooMany {
					leftAsItIs(t, next, 5000+i)
					break
				}
				s = next
			}
		}
	}
}

// leftAsItIs asks a shard that has come to too many pairs: it is not right, so nothing more is done with it.
func leftAsItIs(t *testing.T, s impl.Shard, tx int) {
	t.Helper()
	hasOutcome(t, s, tx, impl.HoldForm)
	decides(t, s, tx, true, false)
	decides(t, s, tx+1, false, false)
	holds(t, s, 7, opsOf("a=1"), impl.HoldForm)
	if next := impl.MakeSure(s); !sameShard(next, s) {
		t.Errorf("MakeSure of too many pairs: %v", next)
	}
	crashes(t, s, 0)
}

// What makes no new pair is done beside a table that is full, and what is taken away leaves room.
func TestWhatIsDoneOfAFullTable(t *testing.T) {
	for text, right := range map[string]bool{"k0000=new": true, "-k0000": true, "a?": true, "-k0000 k00009=1": true, "-a": true, "a=1": false, "-k0000 k00009=1 k00008=1": false, "a=1 b=2 -k0000": false} {
		s := shardBy(t, 1, append(filling(60), impl.Rec{Kind: impl.RecHold, Tx: 7, Ops: rising(opsOf(text))}), 0)
		next := decides(t, s, 7, true, true)
		isShard(t, text, right, next)
	}
}

func rising(l []impl.Op) []impl.Op {
	slices.SortFunc(l, func(a impl.Op, b impl.Op) int { return strings.Compare(a.Key, b.Key) })
	return l
}

func TestHowManyRecordsAShardMayHave(t *testing.T) {
	for _, held := range []int{0, 1, 2, 30} {
		for spare := range 5 {
			s := shardBy(t, 1, append(goneRecs(mostRecs-2*held-spare), holdRecs(held, 1)...), 0)
			isShard(t, "records", true, s)
			code := impl.HoldNo
			if spare >= 2 {
				code = impl.HoldYes
			}
			isShard(t, "held", true, holds(t, s, 7, opsOf("a=1"), code))
			isShard(t, "gone", true, decides(t, s, 7, false, spare >= 1))
			decides(t, s, 7, true, false)
			decides(t, s, 2000, false, true)
			decides(t, s, 2000, true, false)
			for i := range held {
				s = decides(t, s, 5000+i, i%2 == 0, true)
				isShard(t, "decided", true, s)
			}
			if len(s.Log) != mostRecs-spare || len(s.Held) != 0 {
				t.Errorf("%d records, %d held", len(s.Log), len(s.Held))
			}
		}
	}
	for held := range 3 {
		log := append(goneRecs(mostRecs-2*held+1), holdRecs(held, 1)...)
		isShard(t, "one more", false, shardBy(t, 1, log, 0))
		isShard(t, "as many as may be", true, shardBy(t, 1, log[1:], 0))
	}
	isShard(t, "half of them are held", true, shardBy(t, 1, holdRecs(150, 1), 0))
	isShard(t, "more than half are held", false, shardBy(t, 1, holdRecs(151, 1), 0))
	isShard(t, "one is gone, half are held", false, shardBy(t, 1, append(goneRecs(1), holdRecs(150, 1)...), 0))
}

// wrongShards: each not as the chapter tells, by one thing alone.
func wrongShards(t *testing.T) map[string]impl.Shard {
	list := map[string]impl.Shard{}
	bend := func(what string, change func(s *impl.Shard)) {
		s := shardBy(t, 3, recsOf("7 a=1 b=2; 7+; 8 c=3; 9-; 10 d?; 11 a=4"), 2)
		change(&s)
		list[what] = s
	}
	bend("Id -1", func(s *impl.Shard) { s.Id = -1 })
	bend("Id 8", func(s *impl.Shard) { s.Id = 8 })
	bend("Sure below 0", func(s *impl.Shard) { s.Sure = -1 })
	bend("Sure least", func(s *impl.Shard) { s.Sure = math.MinInt })
	bend("Sure one more", func(s *impl.Shard) { s.Sure = 7 })
	bend("Sure greatest", func(s *impl.Shard) { s.Sure = math.MaxInt })
	bend("no Map", func(s *impl.Shard) { s.Map = nil })
	bend("less Map", func(s *impl.Shard) { s.Map = s.Map[:1] })
	bend("more Map", func(s *impl.Shard) { s.Map = append(s.Map, impl.Pair{Key: "z"}) })
	bend("another Val", func(s *impl.Shard) { s.Map[1].Val = "3" })
	bend("another Key", func(s *impl.Shard) { s.Map[1].Key = "bb" })
	bend("a Map that falls", func(s *impl.Shard) { slices.Reverse(s.Map) })
	bend("no Held", func(s *impl.Shard) { s.Held = nil })
	bend("less Held", func(s *impl.Shard) { s.Held = s.Held[1:] })
	bend("more Held", func(s *impl.Shard) { s.Held = append(s.Held, recOf("12 z=1")) })
	bend("Held twice", func(s *impl.Shard) { s.Held = append(s.Held, s.Held[0]) })
	bend("Held in another order", func(s *impl.Shard) { slices.Reverse(s.Held) })
	bend("Held of another Tx", func(s *impl.Shard) { s.Held[0].Tx = 12 })
	bend("Held of another Kind", func(s *impl.Shard) { s.Held[0].Kind = impl.RecDone })
	bend("Held with another Val", func(s *impl.Shard) { s.Held[0].Ops[0].Val = "4" })
	bend("Held with other orders", func(s *impl.Shard) { s.Held[1].Ops[0].Kind = impl.OpDel })
	bend("Held with more orders", func(s *impl.Shard) { s.Held[2].Ops = opsOf("a=4 b=1") })
	bend("Held without orders", func(s *impl.Shard) { s.Held[2].Ops = nil })
	bend("no Log", func(s *impl.Shard) { s.Log = nil })
	bend("less Log", func(s *impl.Shard) { s.Log = s.Log[:5] })
	bend("more Log", func(s *impl.Shard) { s.Log = append(s.Log, recOf("8+")) })
	bend("a Log without its end", func(s *impl.Shard) { s.Log[1] = recOf("12-") })
	for _, text := range []string{"7+", "7 a=1; 7 a=1", "7 a=1; 8 a=1", "7 a?1", "7-; 7 a=1", "7 a=1; 7+; 7-", "0-", "1000001-", "7", "9-; 7+"} {
		s := impl.Shard{Log: recsOf(text)}
		list["a Log that does not fit: "+text] = s
		s.Held = recsOf(text)
		list["a Log that does not fit, with Held: "+text] = s
	}
	list["a Map of nothing"] = impl.Shard{Map: pairsOf("a=1")}
	list["Held of nothing"] = impl.Shard{Held: recsOf("7 a=1")}
	list["Sure of nothing"] = impl.Shard{Sure: 1}
	list["records of too many pairs"] = impl.Shard{Log: filling(61)}
	list["too many records"] = shardBy(t, 0, goneRecs(301), 301)
	list["very many records"] = shardBy(t, 0, goneRecs(3000), 0)
	list["too many records and Held"] = shardBy(t, 0, append(goneRecs(299), holdRecs(1, 1)...), 0)
	return list
}

func TestWrongShards(t *testing.T) {
	for what, s := range wrongShards(t) {
		isShard(t, what, false, s)
		for _, tx := range []int{7, 8, 9, 99, 0, 2000, 5000} {
			hasOutcome(t, s, tx, impl.HoldForm)
			holds(t, s, tx, opsOf("x=1"), impl.HoldForm)
			holds(t, s, tx, nil, impl.HoldForm)
			decides(t, s, tx, true, false)
			decides(t, s, tx, false, false)
		}
		for _, keep := range []int{-1, 0, 1, 6, math.MaxInt} {
			crashes(t, s, keep)
		}
		if next := impl.MakeSure(s); !sameShard(next, s) {
			t.Errorf("%s: MakeSure is %v", what, next)
		}
	}
}

func TestRightShards(t *testing.T) {
	for _, text := range []string{"", "7 a=1", "7 a=1; 7+", "7 a=1; 7-", "7-", "7 a=1 b=2; 7+; 8 c=3; 9-; 10 d?; 11 a=4", "9 c=1; 7 a=2; 8 b=3; 9+"} {
		log := recsOf(text)
		for sure := -2; sure <= len(log)+2; sure++ {
			s := shardBy(t, 7, log, sure)
			right := sure >= 0 && sure <= len(log)
			isShard(t, text, right, s)
			want := s
			if right {
				want.Sure = len(log)
			}
			if next := impl.MakeSure(s); !sameShard(next, want) {
				t.Errorf("MakeSure of %v is %v", s, next)
			}
		}
	}
	isShard(t, "without lists", true, impl.Shard{})
	isShard(t, "with empty lists", true, impl.Shard{Log: []impl.Rec{}, Map: []impl.Pair{}, Held: []impl.Rec{}})
	log := recsOf("7 a=1; 7+")
	log[1].Ops = []impl.Op{}
	isShard(t, "a record without orders", true, impl.Shard{Log: log, Map: pairsOf("a=1")})
	isShard(t, "greatest", true, shardBy(t, 7, filling(60), 16))
}

func TestCrashesKeepWhatIsSure(t *testing.T) {
	log := recsOf("7 a=1 b=2; 7+; 8 c=3; 9-; 10 d?; 11 a=4; 8+; 11-")
	for sure := range len(log) + 1 {
		s := shardBy(t, 4, log, sure)
		for _, keep := range []int{math.MinInt, -8, -1, 0, 1, 2, 3, 7, 8, 9, 1000, math.MaxInt - 1, math.MaxInt} {
			left := sure
			for i := 0; i < keep && left < len(log); i++ {
				left++
			}
			next := crashes(t, s, keep)
			if !sameShard(next, shardBy(t, 4, log[:left], left)) {
				t.Errorf("%d are sure, %d kept: %v", sure, keep, next)
			}
			isShard(t, "crashed", true, next)
			if again := crashes(t, next, 0); !sameShard(again, next) {
				t.Errorf("what is left of a crash is not sure: %v", again)
			}
		}
		if next := impl.CrashShard(impl.MakeSure(s), 0); !sameShard(next, impl.MakeSure(s)) || len(next.Log) != len(log) {
			t.Errorf("MakeSure and a crash: %v", next)
		}
	}
	s := impl.MakeSure(shardOf(t, "7 a=1"))
	done := decides(t, s, 7, true, true)
	hasAll(t, crashes(t, done, 0), "7 a=1", 1, "", "7 a=1")
	hasAll(t, crashes(t, done, 1), "7 a=1; 7+", 2, "a=1", "")
	gone := decides(t, crashes(t, done, 0), 7, false, true)
	hasAll(t, gone, "7 a=1; 7-", 1, "", "")
}

// What is done or gone stays so, whatever is asked of the shard; of a crash that holds for what was sure.
func TestShardsGoByTheWords(t *testing.T) {
	orders := []string{"a=1", "a=2", "-a", "a?", "a?1", "b=1", "-b", "b?1", "b? c=1", "a=1 b=2", "c=3", "-a c=1", "c? d=", "d?", "-d", "b=1 a=1", ""}
	from := rand.New(rand.NewSource(10))
	codes := map[int]int{}
	settled, lost := 0, 0
	for range 400 {
		s := impl.ShardNew(from.Intn(8))
		for range 40 {
			ahead, tx := s, from.Intn(9)
			switch from.Intn(9) {
			case 0, 1, 2, 3:
				ops := opsOf(orders[from.Intn(len(orders))])
				_, code := holdByHand(s, tx, ops)
				codes[code]++
				s = holds(t, s, tx, ops, code)
			case 4, 5, 6:
				yes := from.Intn(2) == 0
				_, ok := decideByHand(s, tx, yes)
				s = decides(t, s, tx, yes, ok)
			case 7:
				s = impl.MakeSure(s)
			case 8:
				s = crashes(t, s, from.Intn(6)-2)
				ahead.Log = ahead.Log[:ahead.Sure]
				ahead.Map, ahead.Held, _ = replayByHand(ahead.Log)
				lost++
			}
			isShard(t, "by events", true, s)
			for tx := range 9 {
				code := outcomeByHand(ahead, tx)
				hasOutcome(t, s, tx, outcomeByHand(s, tx))
				if code == impl.HoldDone || code == impl.HoldGone {
					settled++
					hasOutcome(t, s, tx, code)
				}
			}
		}
	}
	for code := impl.HoldYes; code <= impl.HoldForm; code++ {
		if codes[code] < 150 {
			t.Errorf("%d answers are %d", codes[code], code)
		}
	}
	if settled < 5000 || lost < 500 {
		t.Errorf("%d settled, %d crashes", settled, lost)
	}
}

// A shard that is asked on and on stays right up to its last record, and beyond it refuses all but what is in it.
func TestShardsFillUp(t *testing.T) {
	from := rand.New(rand.NewSource(11))
	s, codes, full := impl.ShardNew(6), map[int]int{}, 0
	for i := range 450 {
		ops := opsOf("k" + strconv.Itoa(from.Intn(40)) + "=" + strconv.Itoa(i))
		_, code := holdByHand(s, 1+i, ops)
		s = holds(t, s, 1+i, ops, code)
		codes[code]++
		tx, yes := 1+from.Intn(600), from.Intn(3) > 0
		if len(s.Held) > 0 && from.Intn(4) > 0 {
			tx = s.Held[from.Intn(len(s.Held))].Tx
		}
		_, ok := decideByHand(s, tx, yes)
		s = decides(t, s, tx, yes, ok)
		if !ok && !yes && impl.Outcome(s, tx) == impl.HoldNo {
			full++
		}
		isShard(t, "filling up", true, s)
	}
	if codes[impl.HoldYes] < 50 || codes[impl.HoldNo] < 50 || full < 20 || len(s.Log)+len(s.Held) != mostRecs {
		t.Errorf("%d records, %d held, codes %v, full %d times", len(s.Log), len(s.Held), codes, full)
	}
}

// shardWithRoom gives s with spare room behind each of its lists, and the whole memory of all.
func shardWithRoom(s impl.Shard) (given impl.Shard, whole impl.Shard) {
	given, whole = s, s
	given.Log, whole.Log = recsWithRoom(s.Log)
	given.Held, whole.Held = recsWithRoom(s.Held)
	given.Map, whole.Map = pairsWithRoom(s.Map)
	return given, whole
}

// allOfShard has each list with what lies in the room behind it.
func allOfShard(whole impl.Shard) impl.Shard {
	whole.Log, whole.Map, whole.Held = allOps(whole.Log), slices.Clone(whole.Map), allOps(whole.Held)
	return whole
}

func spoilPairs(l []impl.Pair) {
	for i := range l[:cap(l)] {
		l[:cap(l)][i] = impl.Pair{Key: "other", Val: "other"}
	}
}

func spoilShard(s impl.Shard) {
	spoilRecs(s.Log)
	spoilPairs(s.Map)
	spoilRecs(s.Held)
}

// shardActs: all that answers a shard, by name; ops are the orders of those that hold.
func shardActs(ops []impl.Op) map[string]func(s impl.Shard) impl.Shard {
	acts := map[string]func(s impl.Shard) impl.Shard{"sure": impl.MakeSure}
	for _, tx := range []int{0, 7, 8, 9, 99} {
		acts["hold "+strconv.Itoa(tx)] = func(s impl.Shard) impl.Shard {
			s, _ = impl.Hold(s, tx, ops)
			return s
		}
		for _, yes := range []bool{true, false} {
			acts[fmt.Sprint("decide ", tx, yes)] = func(s impl.Shard) impl.Shard {
				s, _ = impl.Decide(s, tx, yes)
				return s
			}
		}
		acts["crash "+strconv.Itoa(tx-8)] = func(s impl.Shard) impl.Shard { return impl.CrashShard(s, tx-8) }
	}
	return acts
}

// sharesNothing spoils the lists of an answer, one behind the other: what was not spoiled must stay as it was.
func sharesNothing(t *testing.T, what string, s impl.Shard) {
	t.Helper()
	want := copyShard(s)
	for i := range s.Log {
		spoilOps(s.Log[i].Ops)
		if !sameRecs(s.Log[i+1:], want.Log[i+1:]) || !sameRecs(s.Held, want.Held) || !slices.Equal(s.Map, want.Map) {
			t.Errorf("%s: the Ops of record %d share memory", what, i)
		}
	}
	spoilRecs(s.Log)
	if !sameRecs(s.Held, want.Held) || !slices.Equal(s.Map, want.Map) {
		t.Errorf("%s: Log shares memory", what)
	}
	for i := range s.Held {
		spoilOps(s.Held[i].Ops)
		if !sameRecs(s.Held[i+1:], want.Held[i+1:]) || !slices.Equal(s.Map, want.Map) {
			t.Errorf("%s: the Ops of held %d share memory", what, i)
		}
	}
	spoilRecs(s.Held)
	if !slices.Equal(s.Map, want.Map) {
		t.Errorf("%s: Held shares memory", what)
	}
}

func TestShardsLeaveTheirArguments(t *testing.T) {
	shards := []impl.Shard{
		{}, shardOf(t, "7 a=1"), shardBy(t, 3, recsOf("7 a=1 b=2; 7+; 8 c=3; 9-; 10 d? e=1; 11 a=4"), 2), shardBy(t, 3, recsOf("7 x=1; 8 b=2 c=3; 7+; 8-"), 4),
		{Log: recsOf("7 a=1; 7+"), Held: recsOf("8 b=1 c=2"), Map: pairsOf("z=1")}, {Id: 9, Log: recsOf("8 b=1; 7+"), Sure: -1},
	}
	for i, s := range shards {
		for _, text := range []string{"x=1 y=2", "a=1", "c=1", "w?1", ""} {
			ops, wholeOps := opsWithRoom(opsOf(text))
			for name, act := range shardActs(ops) {
				what := fmt.Sprint("shard ", i, ", ", name, ", ", strings.Fields(text))
				want := copyShard(act(copyShard(s)))
				given, whole := shardWithRoom(s)
				before, opsBefore := allOfShard(whole), slices.Clone(wholeOps)
				impl.ShardOk(given)
				impl.Outcome(given, 7)
				first, second := act(given), act(given)
				spoilShard(second)
				if after := allOfShard(whole); !sameShard(after, before) || !slices.Equal(wholeOps, opsBefore) || !sameShard(first, want) {
					t.Errorf("%s: written into, read behind, or shared", what)
				}
				spoilOps(wholeOps)
				spoilShard(whole)
				if !sameShard(first, want) {
					t.Errorf("%s: the answer hangs on its argument afterwards", what)
				}
				copy(wholeOps, opsBefore)
				sharesNothing(t, what, first)
			}
		}
	}
}

// A shard whose own lists are one memory is answered with lists of their own.
func TestShardsOfOneMemory(t *testing.T) {
	recs := recsOf("7 a=1 b=2; 8 c=3")
	s := impl.Shard{Log: recs, Held: recs}
	for name, act := range shardActs(opsOf("x=1")) {
		next := act(s)
		sharesNothing(t, name, next)
		if !sameRecs(recs, recsOf("7 a=1 b=2; 8 c=3")) {
			t.Fatalf("%s: written into", name)
		}
	}
}
