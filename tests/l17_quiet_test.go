package tests

import (
	"fmt"
	"math"
	"math/rand"
	"reflect"
	"slices"
	"strings"
	"testing"

	"loop.example/g00244/impl"
)

const (
	mostOrders = 40
	mostRounds = 20
)

// roundSteps is a round of n shards, event by event; drain hears all that is on its way.
func roundSteps(n int) []string {
	each := func(name string) []string {
		list := []string{}
		for at := range n {
			list = append(list, fmt.Sprint(name, " ", at))
		}
		return list
	}
	return slices.Concat([]string{"drain"}, each("sure"), []string{"drain", "decide", "tell", "drain"}, each("ask"), []string{"drain"}, each("sure"), []string{"drain"})
}

func drainByHand(w impl.World) impl.World {
	for heard := 0; heard < 2000 && len(w.Net) > 0; heard++ {
		w, _ = stepByHand(w, impl.Event{Kind: impl.EvHear})
	}
	return w
}

// roundByHand asks at the beginning alone whether the world is right.
func roundByHand(w impl.World) impl.World {
	if !worldByHand(w) {
		return w
	}
	for _, step := range roundSteps(len(w.Shards)) {
		if step == "drain" {
			w = drainByHand(w)
		} else {
			w, _ = stepByHand(w, eventOf(step))
		}
	}
	return w
}

// stepsBy does the steps of a list by the program's own events; a world that is not right is left as it is.
func stepsBy(w impl.World, steps []string) impl.World {
	hear := slices.Repeat(eventsOf("hear 0"), mostPlay)
	for _, step := range steps {
		if step != "drain" {
			w = impl.Play(w, eventsOf(step))
			continue
		}
		for turn := 0; turn < 5 && len(w.Net) > 0; turn++ {
			w = impl.Play(w, hear)
		}
	}
	return w
}

func openByHand(w impl.World) int {
	open := 0
	for _, s := range w.Shards {
		for range s.Held {
			open++
		}
	}
	for _, j := range w.C.Jobs {
		if j.State == impl.JobAsks {
			open++
		}
	}
	return open
}

// becomes asks that these lines are all of a world that is now another than it was.
func becomes(t *testing.T, what string, before impl.World, now impl.World, text string) {
	t.Helper()
	lines, changed, want := worldTold(before), []string{}, []string{}
	for i, line := range worldTold(now) {
		if i >= len(lines) || line != lines[i] {
			changed = append(changed, line)
		}
	}
	for _, line := range strings.Split(text, "\n") {
		if line = oneBlank(line); line != "" {
			want = append(want, line)
		}
	}
	if !slices.Equal(changed, want) {
		t.Errorf("%s: what changed is\n%s\nnot\n%s", what, strings.Join(changed, "\n"), strings.Join(want, "\n"))
	}
}

// drains asks what Drain answers.
func drains(t *testing.T, what string, w impl.World) impl.World {
	t.Helper()
	want, before := w, copyWorld(w)
	if worldByHand(w) {
		want = drainByHand(w)
	}
	next := impl.Drain(w)
	if !sameWorld(next, want) || !sameWorld(w, before) {
		t.Fatalf("%s: Drain is\n%s\nnot\n%s", what, strings.Join(worldTold(next), "\n"), strings.Join(worldTold(want), "\n"))
	}
	return next
}

// rounds asks what Round answers, and that Settle of one round is that.
func rounds(t *testing.T, what string, w impl.World) impl.World {
	t.Helper()
	want, before := roundByHand(w), copyWorld(w)
	next := impl.Round(w)
	if !sameWorld(next, want) || !sameWorld(impl.Settle(w, 1), want) || !sameWorld(w, before) {
		t.Fatalf("%s: Round is\n%s\nnot\n%s", what, strings.Join(worldTold(next), "\n"), strings.Join(worldTold(want), "\n"))
	}
	return next
}

func opens(t *testing.T, what string, w impl.World, want int) {
	t.Helper()
	if got := impl.Open(w); got != want || openByHand(w) != want {
		t.Errorf("%s: Open is %d, by hand %d, not %d", what, got, openByHand(w), want)
	}
}

// unquiet tells what is wrong with what three rounds make of a world.
func unquiet(w impl.World) string {
	return unquietAs(w, impl.Settle(w, 3))
}

func unquietAs(w impl.World, now impl.World) string {
	tables, model := impl.Tables(now), impl.Model(now)
	switch {
	case !impl.Resting(now) || !restingByHand(now):
		return "it does not rest"
	case impl.Open(now) != 0 || openByHand(now) != 0:
		return fmt.Sprint("open ", impl.Open(now))
	case len(now.Net) > 0 || len(now.Outs) > 0:
		return fmt.Sprint("words on their way ", wordsTold(now.Net), ", that wait ", wordsTold(now.Outs))
	case !slices.Equal(tables, model) || !slices.Equal(tables, modelByHand(now)) || !slices.Equal(tables, tablesByHand(now)):
		return fmt.Sprint("Tables is ", tables, ", Model ", model)
	case !slices.EqualFunc(now.Begun, w.Begun, sameOrder):
		return "other orders were begun"
	}
	return unsafeOf(now) + halfDone(now)
}

// halfDone tells of an order that is done on some of its shards and not on others, or not as it was decided.
func halfDone(w impl.World) string {
	for _, order := range w.Begun {
		at := choiceByHand(w.C, order.Tx)
		yes := at >= 0 && w.C.Log[at].Yes
		shards, _ := shardsByHand(order.Ops, len(w.Shards))
		for _, shard := range shards {
			if code := impl.Outcome(w.Shards[shard], order.Tx); (code == impl.HoldDone) != yes || code == impl.HoldYes {
				return fmt.Sprint(order.Tx, " is ", code, " at ", shard)
			}
		}
	}
	return ""
}

// quietens asks that three rounds make a world rest.
func quietens(t *testing.T, what string, w impl.World) impl.World {
	t.Helper()
	now := impl.Settle(w, 3)
	if wrong := unquietAs(w, now); wrong != "" {
		t.Fatalf("%s: %s, behind\n%s\nit is\n%s", what, wrong, strings.Join(worldTold(w), "\n"), strings.Join(worldTold(now), "\n"))
	}
	return now
}

func TestDrains(t *testing.T) {
	base := worldOf(t, 3, `
		c 2 2 : 2000 a=2 / asks; 2001 e=1 g=1 / asks 0 : 1000+ 1001- : 2
		0 : 2001 g=1 : 1
		1 : 1000 a=1; 1002 b=1 : 2
		outs : vote 0 2001 yes; hold 1 7 h=1
		begun : 1000 a=1; 1001 c=1; 1002 b=1; 2000 a=2; 2001 e=1 g=1`)
	for _, x := range []struct{ what, net, text string }{
		{"no words", "", ""},
		{"to hold", "hold 2 2001 e=1", "2 : 2001 e=1 : 0 : : 2001 e=1 \n net : \n outs : vote 0 2001 yes; hold 1 7 h=1; vote 2 2001 yes"},
		{"to hold what is held by another", "hold 1 2000 a=2", "net : \n outs : vote 0 2001 yes; hold 1 7 h=1; vote 1 2000"},
		{"a vote", "vote 0 2001 yes", "net :"},
		{"the last vote", "vote 2 2001 yes", "c 2 2 : 2000 a=2 / asks; 2001 e=1 g=1 / yes 0 2 : 1000+ 1001- 2001+ : 2 \n net :"},
		{"a vote of no", "vote 2 2001", "c 2 2 : 2000 a=2 / asks; 2001 e=1 g=1 / no 0 : 1000+ 1001- 2001- : 2 \n net :"},
		{"what came of it", "tell 1 1000 yes", "1 : 1000 a=1; 1002 b=1; 1000+ : 2 : a=1 : 1002 b=1 \n net :"},
		{"a question that makes a word", "ask 1 1000", "1 : 1000 a=1; 1002 b=1; 1000+ : 2 : a=1 : 1002 b=1 \n net :"},
		{"two of them", "ask 1 1000; ask 1 1002", "1 : 1000 a=1; 1002 b=1; 1000+; 1002- : 2 : a=1 : \n net :"},
		{"two of them, the other way round", "ask 1 1002; ask 1 1000", "1 : 1000 a=1; 1002 b=1; 1002-; 1000+ : 2 : a=1 : \n net :"},
		{"of one that was never held", "ask 2 1001", "2 : 1001- : 0 : : \n net :"},
		{"a question of which nothing is known", "ask 0 2001; ask 1 999", "net :"},
		{"one word ahead of another", "hold 1 2000 a=2; tell 1 1000 yes", "1 : 1000 a=1; 1002 b=1; 1000+ : 2 : a=1 : 1002 b=1 \n net : \n outs : vote 0 2001 yes; hold 1 7 h=1; vote 1 2000"},
		{"one word behind another", "tell 1 1000 yes; hold 1 2000 a=2", "1 : 1000 a=1; 1002 b=1; 1000+; 2000 a=2 : 2 : a=1 : 1002 b=1; 2000 a=2 \n net : \n outs : vote 0 2001 yes; hold 1 7 h=1; vote 1 2000 yes"},
		{"the answer comes behind all others", "ask 1 1000; hold 1 2000 a=2", "1 : 1000 a=1; 1002 b=1; 1000+ : 2 : a=1 : 1002 b=1 \n net : \n outs : vote 0 2001 yes; hold 1 7 h=1; vote 1 2000"},
		{"the answer is behind all others, however many", "ask 1 1000; ask 1 1002; tell 1 1002; hold 1 9 b=2", "1 : 1000 a=1; 1002 b=1; 1002-; 9 b=2; 1000+ : 2 : a=1 : 9 b=2 \n net : \n outs : vote 0 2001 yes; hold 1 7 h=1; vote 1 9 yes"},
		{"a word twice", "hold 2 2001 e=1; hold 2 2001 e=1", "2 : 2001 e=1 : 0 : : 2001 e=1 \n net : \n outs : vote 0 2001 yes; hold 1 7 h=1; vote 2 2001 yes; vote 2 2001 yes"},
		{"a no, and its hold too late", "tell 2 2001; hold 2 2001 e=1", "2 : 2001- : 0 : : \n net : \n outs : vote 0 2001 yes; hold 1 7 h=1; vote 2 2001"},
		{"the first vote counts", "vote 2 2001; vote 2 2001 yes; vote 1 2000 yes", "c 2 2 : 2000 a=2 / yes 1; 2001 e=1 g=1 / no 0 : 1000+ 1001- 2001- 2000+ : 2 \n net :"},
	} {
		w := copyWorld(base)
		w.Net = wordsOf(x.net)
		isWorld(t, x.what, true, w)
		becomes(t, x.what, w, drains(t, x.what, w), x.text)
		if again := drains(t, x.what, impl.Drain(w)); !sameWorld(again, impl.Drain(w)) {
			t.Errorf("%s: drained again it is another", x.what)
		}
	}
}

// holdsFrom gives n records that hold one key each, from a transaction on.
func holdsFrom(tx int, n int) []impl.Rec {
	list := []impl.Rec{}
	for i := range n {
		list = append(list, impl.Rec{Kind: impl.RecHold, Tx: tx + i, Ops: opsOf(fmt.Sprintf("h%04d=1", i))})
	}
	return list
}

// All words of a full Net are heard, and all that is answered to them: 800 in all.
func TestDrainsOfFullNets(t *testing.T) {
	w := impl.WorldNew(3)
	w.C.Life = 2
	for at := range 3 {
		w.Shards[at] = shardBy(t, at, holdsFrom(1000+200*at, 140), 0)
		for i := range 140 {
			w.Net = roomByHand(w.Net, impl.Word{Kind: impl.WordAsk, Shard: at, Tx: 1000 + 200*at + i})
		}
	}
	next := drains(t, "questions", w)
	if len(w.Net) != mostNet || len(next.Net) != 0 || len(next.Shards[0].Held) != 0 || len(next.Shards[1].Held) != 0 || len(next.Shards[2].Held) != 20 {
		t.Errorf("%d are held", impl.Open(next))
	}
	for _, wait := range []int{0, 1, mostNet - 3, mostNet - 1, mostNet} {
		w = impl.WorldNew(8)
		w.Net, w.Outs = nil, asking(wait)
		for i := range mostNet {
			w.Net = append(w.Net, impl.Word{Kind: impl.WordHold, Shard: i % 8, Tx: 1 + i, Ops: opsOf(fmt.Sprintf("h%04d=1", i))})
		}
		next = drains(t, "to hold", w)
		if len(next.Net) != 0 || impl.Open(next) != mostNet || len(next.Outs) != mostNet {
			t.Errorf("%d are held, %d wait", impl.Open(next), len(next.Outs))
		}
	}
	busy := busyWorld(t)
	for _, text := range []string{"vote 2 2000 yes", "tell 0 2001 yes", "ask 2 1000", "ask 0 2000", "hold 2 2000 c=1", "hold 1 9 d=1"} {
		w = copyWorld(busy)
		w.Net = append(w.Net, slices.Repeat(wordsOf(text), mostNet-len(w.Net))...)
		if next = drains(t, text, w); len(w.Net) != mostNet || len(next.Net) != 0 {
			t.Errorf("%s: %d are left", text, len(next.Net))
		}
	}
	for _, more := range []int{1, 100, 1600, 1601, 3000} {
		w = copyWorld(busy)
		w.Net = append(w.Net, asking(mostNet-len(w.Net)+more)...)
		if next = drains(t, "more than may be", w); !sameWorld(next, w) {
			t.Errorf("%d too many: it is not as it was", more)
		}
	}
}

func TestRounds(t *testing.T) {
	voted := "begin a=1 c=1; hear 0; hear 0; sure 1; sure 2; hear 0; hear 0"
	done := "1 : 1000 a=1; 1000+ : 2 : a=1 : \n 2 : 1000 c=1; 1000+ : 2 : c=1 :"
	for _, x := range []struct {
		what, events string
		rounds       []string
	}{
		{"nothing", "decide", nil},
		{"on its way", "begin a=1 c=1", []string{"c 1 1 : 1000 a=1 c=1 / yes 1 2 : 1000+ : 1 \n" + done + "\n net :"}},
		{"of no words", "begin a=1 c=1; drop 0; drop 0", []string{
			"c 1 1 : 1000 a=1 c=1 / yes 1 2 : 1000+ : 0 \n 1 : 1000 a=1 : 1 : : 1000 a=1 \n 2 : 1000 c=1 : 1 : : 1000 c=1",
			"c 1 1 : 1000 a=1 c=1 / yes 1 2 : 1000+ : 1 \n" + done}},
		{"of one word that is lost", "begin a=1 c=1; drop 0", []string{
			"c 1 1 : 1000 a=1 c=1 / yes 1 2 : 1000+ : 0 \n 1 : 1000 a=1 : 1 : : 1000 a=1 \n 2 : 1000 c=1 : 1 : : 1000 c=1 \n net :",
			"c 1 1 : 1000 a=1 c=1 / yes 1 2 : 1000+ : 1 \n" + done}},
		{"of votes that wait", "begin a=1 c=1; hear 0; hear 0", []string{"c 1 1 : 1000 a=1 c=1 / yes 1 2 : 1000+ : 1 \n" + done + "\n outs :"}},
		{"of a vote that is lost", "begin a=1 c=1; hear 0; crash 1 1; hear 0", []string{
			"c 1 1 : 1000 a=1 c=1 / yes 1 2 : 1000+ : 0 \n 2 : 1000 c=1 : 1 : : 1000 c=1 \n outs :",
			"c 1 1 : 1000 a=1 c=1 / yes 1 2 : 1000+ : 1 \n" + done}},
		{"of a hold that is lost", "begin a=1 c=1; hear 0; hear 0; sure 1; hear 0; crash 2", []string{
			"c 1 1 : 1000 a=1 c=1 / yes 1 2 : 1000+ : 0 \n 2 : 1000 c=1 : 1 : : 1000 c=1",
			"c 1 1 : 1000 a=1 c=1 / yes 1 2 : 1000+ : 1 \n" + done}},
		{"of a choice", voted, []string{"c 1 1 : 1000 a=1 c=1 / yes 1 2 : 1000+ : 1 \n" + done}},
		{"of a choice that is sure", voted + "; decide", []string{done}},
		{"of a choice that is told", voted + "; decide; tell", []string{done + "\n net :"}},
		{"of a choice that is told to one", voted + "; decide; tell; hear 0; drop 0; sure 1", []string{"2 : 1000 c=1; 1000+ : 2 : c=1 :"}},
		{"of one that did it and forgot it", voted + "; decide; tell; hear 0; hear 0; crash 1; sure 2", []string{"1 : 1000 a=1; 1000+ : 2 : a=1 :"}},
		{"of what is done and not sure", voted + "; decide; tell; hear 0; hear 0; fall", []string{"1 : 1000 a=1; 1000+ : 2 : a=1 : \n 2 : 1000 c=1; 1000+ : 2 : c=1 :"}},
		{"of a choice of an earlier life", voted + "; decide; fall", []string{done}},
		{"of a choice that a fall kept", voted + "; fall 1", []string{done}},
		{"of a choice that a fall lost", voted + "; fall", []string{"1 : 1000 a=1; 1000- : 2 : : \n 2 : 1000 c=1; 1000- : 2 : :"}},
		{"of an earlier life, on its way", "begin a=1 c=1; fall", []string{"1 : 1000 a=1; 1000- : 2 : : \n 2 : 1000 c=1; 1000- : 2 : : \n net :"}},
		{"of an earlier life, never heard of", "begin a=1 c=1; drop 0; drop 0; fall", nil},
		{"of an earlier life, its votes too late", "begin a=1 c=1; hear 0; hear 0; sure 1; fall", []string{"1 : 1000 a=1; 1000- : 2 : : \n 2 : 1000 c=1; 1000- : 2 : : \n net : \n outs :"}},
		{"that is not met", "begin a?1 c=1", []string{"c 1 1 : 1000 a?1 c=1 / no : 1000- : 1 \n 1 : 1000- : 1 : : \n 2 : 1000 c=1; 1000- : 2 : : \n net :"}},
		{"that is not met, of no words", "begin a?1 c=1; drop 0; drop 0", []string{
			"c 1 1 : 1000 a?1 c=1 / no : 1000- : 0 \n 2 : 1000 c=1 : 1 : : 1000 c=1",
			"c 1 1 : 1000 a?1 c=1 / no : 1000- : 1 \n 1 : 1000- : 1 : : \n 2 : 1000 c=1; 1000- : 2 : :"}},
		{"of keys that the one ahead holds", "begin a=1 c=1; begin a=2", []string{
			"c 1 2 : 1000 a=1 c=1 / yes 1 2; 1001 a=2 / no : 1001- 1000+ : 2 \n 1 : 1000 a=1; 1000+; 1001- : 3 : a=1 : \n 2 : 1000 c=1; 1000+ : 2 : c=1 : \n net :"}},
		{"two that stand in each other's way", "begin a=1 c=1; begin a=2 c=2; hear 0; hear 2", []string{
			"c 1 2 : 1000 a=1 c=1 / no 1; 1001 a=2 c=2 / no : 1001- 1000- : 2 \n 1 : 1000 a=1; 1000-; 1001- : 3 : : \n 2 : 1001 c=2; 1000-; 1001- : 3 : : \n net : \n outs :"}},
		{"that waits for one of an earlier life", "begin a=1; hear 0; sure 1; fall; begin a=2; drop 0; drop 0", []string{
			"c 2 1 : 2000 a=2 / no : 2000- : 0 \n 1 : 1000 a=1; 1000- : 2 : :",
			"c 2 1 : 2000 a=2 / no : 2000- : 1 \n 1 : 1000 a=1; 1000-; 2000- : 3 : :"}},
		{"that needs what the one ahead puts", voted + "; decide; begin a?1 c?1 g=1", []string{
			"c 1 2 : 1000 a=1 c=1 / yes 1 2; 1001 a?1 c?1 g=1 / no 0 : 1000+ 1001- : 2 \n 0 : 1001 g=1; 1001- : 2 : : \n 1 : 1000 a=1; 1000+; 1001- : 3 : a=1 : \n 2 : 1000 c=1; 1000+; 1001- : 3 : c=1 : \n net :"}},
		{"that needs what was told", voted + "; decide; tell; begin a?1 c?1 g=1", []string{
			"c 1 2 : 1000 a=1 c=1 / yes 1 2; 1001 a?1 c?1 g=1 / yes 0 1 2 : 1000+ 1001+ : 2 \n 0 : 1001 g=1; 1001+ : 2 : g=1 : \n 1 : 1000 a=1; 1000+; 1001 a?1; 1001+ : 4 : a=1 : \n 2 : 1000 c=1; 1000+; 1001 c?1; 1001+ : 4 : c=1 : \n net :"}},
		{"of choices in the order of the shards", "begin c=1; begin a=1; begin g=1", []string{
			"c 1 3 : 1000 c=1 / yes 2; 1001 a=1 / yes 1; 1002 g=1 / yes 0 : 1002+ 1001+ 1000+ : 3 \n 0 : 1002 g=1; 1002+ : 2 : g=1 : \n 1 : 1001 a=1; 1001+ : 2 : a=1 : \n 2 : 1000 c=1; 1000+ : 2 : c=1 : \n net :"}},
		{"of choices in the order of the shards, of no words", "begin c=1; begin a=1; begin g=1; drop 0; drop 0; drop 0", []string{
			"c 1 3 : 1000 c=1 / yes 2; 1001 a=1 / yes 1; 1002 g=1 / yes 0 : 1002+ 1001+ 1000+ : 0 \n 0 : 1002 g=1 : 1 : : 1002 g=1 \n 1 : 1001 a=1 : 1 : : 1001 a=1 \n 2 : 1000 c=1 : 1 : : 1000 c=1",
			"c 1 3 : 1000 c=1 / yes 2; 1001 a=1 / yes 1; 1002 g=1 / yes 0 : 1002+ 1001+ 1000+ : 3 \n 0 : 1002 g=1; 1002+ : 2 : g=1 : \n 1 : 1001 a=1; 1001+ : 2 : a=1 : \n 2 : 1000 c=1; 1000+ : 2 : c=1 :"}},
	} {
		w := impl.WorldNew(3)
		for _, e := range eventsOf(x.events) {
			w, _ = impl.Do(w, e)
		}
		first := w
		for i, text := range x.rounds {
			if i > 0 && impl.Resting(w) {
				t.Errorf("%s: it rests behind %d rounds", x.what, i)
			}
			next := rounds(t, x.what, w)
			becomes(t, fmt.Sprint(x.what, ", round ", 1+i), w, next, text)
			w = next
		}
		if again := rounds(t, x.what, w); !sameWorld(again, w) || !impl.Resting(w) || !sameWorld(quietens(t, x.what, first), w) {
			t.Errorf("%s: behind %d rounds it goes on", x.what, len(x.rounds))
		}
	}
}

// sayingMuch has so many jobs of one word each that the words that tell of them have no room for any more, and an order of an earlier life at each shard.
func sayingMuch(t *testing.T) impl.World {
	w := impl.WorldNew(3)
	w.C.Life, w.C.Next = 2, mostNet
	for at := range 3 {
		w.Shards[at] = shardBy(t, at, holdsFrom(1000+10*at, 2), 0)
	}
	for i := range mostNet {
		order := impl.Order{Tx: 2000 + i, Ops: opsOf(fmt.Sprintf("j%04d=1", i))}
		w.Begun = append(w.Begun, order)
		w.C.Jobs = append(w.C.Jobs, impl.Job{Tx: order.Tx, Ops: order.Ops, State: impl.JobAsks})
	}
	return w
}

// askingMuch has more orders of an earlier life than can be asked for at once.
func askingMuch(t *testing.T) impl.World {
	w := impl.WorldNew(3)
	w.C.Life = 2
	for at := range 3 {
		w.Shards[at] = shardBy(t, at, holdsFrom(1000+200*at, mostRecs/2), 0)
	}
	return w
}

// tellingWorlds are such as tell a round from others.
func tellingWorlds(t *testing.T) []impl.World {
	list := []impl.World{}
	for _, text := range []string{
		"begin a=1 c=1; begin b=1 g=1; begin e=1; hear 0; hear 0; drop 0",
		"begin a=1 c=1 g=1; hear 0; hear 0; hear 0; sure 0; sure 1; begin d=1 e=1 k=1; begin h=1; begin f=1; begin m=1",
		"begin a=1 c=1 g=1; hear 0; hear 0; hear 0; sure 0; sure 1; sure 2; hear 0; hear 0; hear 0; begin b=1 e=1 k=1; drop 0; drop 0; drop 0",
		"begin a=1; begin c=1; begin g=1; begin b=1 e=1 k=1; drop 0; drop 0; drop 0; hear 0; hear 0; hear 0; fall; begin g=1; begin c=1; begin a=1; drop 0; drop 0; drop 0; begin d=1 f=1 m=1",
		"begin g=1 a=1; begin c=1; hear 1; sure 2; fall; ask 2; hear 1; begin a=1 c=1 g=1",
	} {
		list = append(list, impl.Play(impl.WorldNew(3), eventsOf(text)))
	}
	from := rand.New(rand.NewSource(171))
	for run := range 60 {
		w := impl.WorldNew(3)
		for range 10 + from.Intn(90) {
			e := roughEvent(from, w)
			if run%3 == 0 {
				e = eventBy(from, w, 4)
			}
			w, _ = impl.Do(w, e)
		}
		list = append(list, w)
	}
	return append(list, busyWorld(t), sayingMuch(t), askingMuch(t))
}

// otherRounds are all in which one step lacks or stands elsewhere. That shard 1 asks ahead of shard 0 is no other round: both have room for all that they hold.
func otherRounds() map[string][]string {
	right, list := roundSteps(3), map[string][]string{}
	for i, step := range right {
		lacks := slices.Delete(slices.Clone(right), i, i+1)
		list[fmt.Sprintf("without %s, the step %d", step, i)] = lacks
		for at := range right {
			what := fmt.Sprintf("%s, the step %d, at %d", step, i, at)
			list[what] = slices.Insert(slices.Clone(lacks), at, step)
			if slices.Equal(list[what], right) || step == "ask 0" && at == i+1 || step == "ask 1" && at == i-1 {
				delete(list, what)
			}
		}
	}
	return list
}

// Each step of a round is needed where it stands: there is a world that becomes another one, if the step lacks or stands elsewhere.
func TestNoOtherRound(t *testing.T) {
	worlds := tellingWorlds(t)
	right := []impl.World{}
	for i, w := range worlds {
		isWorld(t, "telling", true, w)
		right = append(right, impl.Round(w))
		if !sameWorld(stepsBy(w, roundSteps(3)), right[i]) {
			t.Errorf("world %d: Round is\n%s", i, strings.Join(worldTold(right[i]), "\n"))
		}
	}
	list := otherRounds()
	if len(list) < 200 {
		t.Error("there are only", len(list))
	}
	for what, steps := range list {
		t.Run(what, func(t *testing.T) {
			t.Parallel()
			for i, w := range worlds {
				if !sameWorld(stepsBy(w, steps), right[i]) {
					return
				}
			}
			t.Error("it can't be told from a round")
		})
	}
}

// More is asked than has room on the way: each round lets go as many as it can, and it is the first shards that ask first.
func TestRoundsThatAskMuch(t *testing.T) {
	w := rounds(t, "much is asked", askingMuch(t))
	if len(w.Shards[0].Held) != 0 || len(w.Shards[1].Held) != 0 || len(w.Shards[2].Held) != 50 || w.Shards[2].Held[0].Tx != 1500 {
		t.Errorf("%d, %d and %d are held", len(w.Shards[0].Held), len(w.Shards[1].Held), len(w.Shards[2].Held))
	}
	if w = impl.Round(w); !impl.Resting(w) || impl.Open(w) != 0 {
		t.Errorf("%d are held", impl.Open(w))
	}
	w = impl.Round(sayingMuch(t))
	for at, s := range w.Shards {
		if impl.Outcome(s, 1000+10*at) != impl.HoldGone || impl.Outcome(s, 1001+10*at) != impl.HoldGone {
			t.Errorf("shard %d holds orders of an earlier life", at)
		}
	}
	if slices.ContainsFunc(w.C.Jobs, func(j impl.Job) bool { return j.State == impl.JobAsks }) {
		t.Error("a job asks")
	}
}

// overfull comes to a shard of more than MaxPairs pairs by the first word that is heard: it is not right from then on. Its job of no words would need two rounds.
func overfull(t *testing.T) impl.World {
	w := impl.WorldNew(3)
	w.C.Next, w.Begun = 2, begunOf("1000 c=2 g=2; 1001 e=1")
	w.C.Jobs = jobsOf("1000 c=2 g=2 / asks; 1001 e=1 / asks")
	w.Shards[1] = shardBy(t, 1, append(filling(60), recsOf("7 a=1 b=2; 8 d=1")...), 2)
	w.Net = wordsOf("tell 1 7 yes; hold 1 9 h=1; hold 2 1000 c=2; hold 0 1000 g=2; tell 1 8; ask 1 8")
	w.Outs = wordsOf("vote 1 8 yes; vote 2 5")
	return w
}

func TestRoundsAskAtTheBeginningAlone(t *testing.T) {
	w := overfull(t)
	isWorld(t, "at the beginning", true, w)
	heard := drains(t, "overfull", w)
	isWorld(t, "behind its words", false, heard)
	becomes(t, "drained", w, heard, "0 : 1000 g=2 : 0 : : 1000 g=2 \n 1 : "+strings.Split(worldTold(heard)[2], " : ")[1]+" : 2 : "+strings.Split(worldTold(heard)[2], " : ")[3]+" : 8 d=1 \n 2 : 1000 c=2 : 0 : : 1000 c=2 \n net : \n outs : vote 1 8 yes; vote 2 5; vote 2 1000 yes; vote 0 1000 yes")
	if len(heard.Shards[1].Map) != 62 || heard.Shards[1].Sure != 2 {
		t.Errorf("it is not done: %q", worldTold(heard)[2])
	}
	next := rounds(t, "overfull", w)
	isWorld(t, "behind a round", false, next)
	if impl.Outcome(next.Shards[0], 1000) != impl.HoldDone || impl.Outcome(next.Shards[2], 1000) != impl.HoldDone || !slices.Equal(next.C.Log, logOf("1000+ 1001+")) || next.C.Sure != 1 || next.Shards[2].Sure != 3 {
		t.Errorf("the round does not go on: %q", worldTold(next))
	}
	if !sameShard(next.Shards[1], heard.Shards[1]) || len(next.Net) != 0 || len(next.Outs) != 0 {
		t.Errorf("what is not right is not as it was: %q", worldTold(next))
	}
	for _, n := range []int{2, 3, mostRounds} {
		if !sameWorld(impl.Settle(w, n), next) {
			t.Errorf("%d rounds are not as one, behind which it is not right", n)
		}
	}
	for _, later := range []impl.World{heard, next} {
		later.Net, later.Outs = wordsOf("tell 2 9; hold 2 11 c=1"), wordsOf("vote 0 3")
		if !sameWorld(drains(t, "later", later), later) || !sameWorld(rounds(t, "later", later), later) || !sameWorld(impl.Settle(later, 2), later) {
			t.Error("what is not right at the beginning is not as it was")
		}
	}
}

// slow is a world in which each round lets just one order go: all but one of those that have room to ask ask in vain.
func slow(t *testing.T) impl.World {
	w := impl.WorldNew(3)
	w.C.Life = 2
	w.Shards[0], w.Shards[1] = shardBy(t, 0, holdsFrom(1, 150), 0), shardBy(t, 1, holdsFrom(201, 150), 0)
	list := holdsFrom(401, 150)
	for i := range list[99:] {
		list[99+i].Tx = 1000 + i
	}
	w.Shards[2] = shardBy(t, 2, list, 0)
	return w
}

func TestHowManyRoundsItSettles(t *testing.T) {
	w := slow(t)
	isWorld(t, "slow", true, w)
	want := []impl.World{w}
	for i := range mostRounds + 2 {
		want = append(want, impl.Round(want[i]))
		opens(t, fmt.Sprint("behind ", i), want[i], 450-i)
		for tx := range 51 {
			if code := impl.Outcome(want[i].Shards[2], 1000+tx); (code == impl.HoldGone) != (tx < i) {
				t.Fatalf("behind %d: %d is %d", i, 1000+tx, code)
			}
		}
	}
	for n := range mostRounds + 1 {
		if got := impl.Settle(w, n); !sameWorld(got, want[n]) {
			t.Errorf("%d rounds: %d are open", n, impl.Open(got))
		}
	}
	for _, n := range []int{math.MinInt, -1 << 32, -mostRounds, -2, -1, mostRounds + 1, mostRounds + 2, 100, 1 << 32, 1<<32 + 1, math.MaxInt} {
		if got := impl.Settle(w, n); !sameWorld(got, w) {
			t.Errorf("%d rounds: it is not as it was, %d are open", n, impl.Open(got))
		}
		for _, other := range []impl.World{busyWorld(t), overfull(t), impl.WorldNew(1)} {
			if !sameWorld(impl.Settle(other, n), other) {
				t.Errorf("%d rounds: it is not as it was", n)
			}
		}
	}
	busy := busyWorld(t)
	by := busy
	for n := range 5 {
		if !sameWorld(impl.Settle(busy, n), by) {
			t.Errorf("%d rounds of a busy world are\n%s", n, strings.Join(worldTold(impl.Settle(busy, n)), "\n"))
		}
		by = rounds(t, "busy", by)
	}
}

func TestWrongWorldsStayAsTheyAre(t *testing.T) {
	for what, w := range wrongWorlds(t) {
		isWorld(t, what, false, w)
		if !sameWorld(drains(t, what, w), w) || !sameWorld(rounds(t, what, w), w) {
			t.Errorf("%s: it is not as it was", what)
		}
		for _, n := range []int{-1, 0, 1, 2, mostRounds, mostRounds + 1} {
			if !sameWorld(impl.Settle(w, n), w) {
				t.Errorf("%s: settled by %d it is not as it was", what, n)
			}
		}
		opens(t, what, w, openByHand(w))
	}
	for n := -1; n <= 9; n++ {
		w := impl.WorldNew(n)
		if !sameWorld(impl.Drain(w), w) || !sameWorld(impl.Round(w), w) || !sameWorld(impl.Settle(w, 3), w) || impl.Open(w) != 0 {
			t.Errorf("of %d shards: it is not as it was", n)
		}
	}
}

func TestOpen(t *testing.T) {
	for _, x := range []struct {
		events string
		open   int
	}{
		{"decide", 0},
		{"begin a=1 c=1", 1},
		{"begin a=1 c=1; begin b=1", 2},
		{"begin a=1 c=1; hear 0", 2},
		{"begin a=1 c=1; hear 0; hear 0", 3},
		{"begin a=1 c=1; hear 0; hear 0; fall", 2},
		{"begin a=1 c=1; hear 0; fall", 1},
		{"begin a=1 c=1; fall", 0},
		{"begin a=1 c=1 g=1; begin b=1; begin d=1; hear 0; hear 0; hear 0; hear 0; hear 0", 8},
		{"begin a=1 c=1 g=1; begin b=1; begin d=1; hear 0; hear 0; hear 0; hear 0; hear 0; fall", 5},
		{"begin a=1 c=1 g=1; begin b=1; begin d=1; hear 0; hear 0; hear 0; hear 0; hear 0; crash 1", 5},
		{"begin a=1; hear 0; sure 1; hear 0", 1},
		{"begin a=1; hear 0; sure 1; hear 0; decide", 1},
		{"begin a=1; hear 0; sure 1; hear 0; decide; tell", 1},
		{"begin a=1; hear 0; sure 1; hear 0; decide; tell; hear 0", 0},
		{"begin a?1; hear 0", 1},
		{"begin a?1; hear 0; sure 1; hear 0", 0},
		{"begin a=1 a=2", 0},
	} {
		opens(t, x.events, impl.Play(impl.WorldNew(3), eventsOf(x.events)), x.open)
	}
	opens(t, "zero", impl.World{}, 0)
	opens(t, "busy", busyWorld(t), 7)
	opens(t, "settled", settled(t), 4)
	opens(t, "its choices not sure", changed(settled(t), func(w *impl.World) { w.C.Sure = 0 }), 4)
	opens(t, "no shards", changed(busyWorld(t), func(w *impl.World) { w.Shards = nil }), 2)
	opens(t, "no jobs", changed(busyWorld(t), func(w *impl.World) { w.C.Jobs = nil }), 5)
	opens(t, "no who decides", changed(busyWorld(t), func(w *impl.World) { w.C = impl.Coord{} }), 5)
	opens(t, "shards twice", changed(busyWorld(t), func(w *impl.World) { w.Shards = append(w.Shards, w.Shards...) }), 12)
	opens(t, "jobs twice", changed(busyWorld(t), func(w *impl.World) { w.C.Jobs = append(w.C.Jobs, w.C.Jobs...) }), 9)
	opens(t, "by Held, not by the Log", changed(busyWorld(t), func(w *impl.World) { w.Shards[0].Log, w.Shards[2].Held = nil, nil }), 6)
	opens(t, "Held of whatever kind", impl.World{Shards: []impl.Shard{{Id: -7, Held: make([]impl.Rec, 3)}, {Held: recsOf("7+; 7-")}}}, 5)
	for state, open := range map[int]int{math.MinInt: 0, -1: 0, 0: 0, impl.JobAsks: 3, impl.JobYes: 0, impl.JobNo: 0, 4: 0, math.MaxInt: 0} {
		opens(t, fmt.Sprint("jobs that are ", state), impl.World{C: impl.Coord{Jobs: slices.Repeat([]impl.Job{{State: state}}, 3)}}, open)
	}
	for held := range 5 {
		for jobs := range 5 {
			w := impl.World{C: impl.Coord{Jobs: slices.Repeat([]impl.Job{{State: impl.JobAsks}}, jobs)}, Shards: []impl.Shard{{}, {Held: make([]impl.Rec, held)}}}
			opens(t, "some of both", w, held+jobs)
		}
	}
}

// fewEvent draws an event as draw does; no more than mostOrders orders are begun.
func fewEvent(from *rand.Rand, w impl.World, draw func(from *rand.Rand, w impl.World) impl.Event) impl.Event {
	e := draw(from, w)
	if e.Kind == impl.EvBegin && len(w.Begun) >= mostOrders {
		return impl.Event{Kind: impl.EvHear}
	}
	return e
}

// faultyEvent draws an event of a world in which more is begun, lost and doubled than heard.
func faultyEvent(from *rand.Rand, w impl.World) impl.Event {
	kinds := []int{impl.EvBegin, impl.EvBegin, impl.EvHear, impl.EvHear, impl.EvHear, impl.EvHear, impl.EvDrop, impl.EvDouble, impl.EvDouble, impl.EvSure, impl.EvSure, impl.EvDecide, impl.EvTell, impl.EvAsk, impl.EvCrash, impl.EvFall}
	e := impl.Event{Kind: kinds[from.Intn(len(kinds))], At: from.Intn(w.C.N), N: from.Intn(9) - 1, Ops: roughOps(from)}
	if e.Kind == impl.EvFall && from.Intn(4) > 0 {
		e.Kind = impl.EvDouble
	}
	if e.Kind == impl.EvHear || e.Kind == impl.EvDrop || e.Kind == impl.EvDouble {
		e.At = from.Intn(len(w.Net) + 1)
	}
	return e
}

// wideEvent draws mostly orders of many shards, and words for them.
func wideEvent(from *rand.Rand, w impl.World) impl.Event {
	e := roughEvent(from, w)
	if e.Kind != impl.EvBegin {
		return e
	}
	e.Ops = nil
	for _, key := range strings.Fields("a b c d e f g h i j k l m n o p") {
		if from.Intn(2) > 0 && len(e.Ops) < 8 {
			e.Ops = append(e.Ops, impl.Op{Kind: []int{impl.OpPut, impl.OpPut, impl.OpPut, impl.OpDel}[from.Intn(4)], Key: key})
		}
	}
	return e
}

// noteQuiet counts what worlds were quietened, and what a quiet time made of them.
func (m seen) noteQuiet(w impl.World, now impl.World) {
	m.noteIf("words on their way", len(w.Net) > 0)
	m.noteIf("words that wait", len(w.Outs) > 0)
	m.noteIf("a full Net", len(w.Net) == mostNet)
	m.noteIf("a full Outs", len(w.Outs) == mostNet)
	m.noteIf("choices that are not sure", w.C.Sure < len(w.C.Log))
	m.noteIf("as many orders as may be", len(w.Begun) == mostOrders)
	m.noteIf("more than one round", !restingByHand(impl.Round(w)))
	for _, j := range w.C.Jobs {
		m.noteIf("jobs that ask", j.State == impl.JobAsks)
	}
	for at, s := range w.Shards {
		for _, r := range s.Held {
			early := r.Tx < 1000*w.C.Life
			m.noteIf("held in this life", !early)
			m.noteIf("held of an earlier life, and decided", early && choiceByHand(w.C, r.Tx) >= 0)
			m.noteIf("held of an earlier life, and not decided", early && choiceByHand(w.C, r.Tx) < 0)
			switch impl.Outcome(now.Shards[at], r.Tx) {
			case impl.HoldDone:
				m["held and done"]++
			case impl.HoldGone:
				m["held and gone"]++
			}
		}
		m.noteIf("records that are not sure", s.Sure < len(s.Log))
	}
	for _, x := range now.C.Log[len(w.C.Log):] {
		m[fmt.Sprint("decided then: ", x.Yes)]++
	}
}

// Of WorldNew, by whatever events of no more than 40 orders: behind three rounds it is Resting, and Tables is Model.
func TestThreeRoundsAndItRests(t *testing.T) {
	draws := []func(from *rand.Rand, w impl.World) impl.Event{
		roughEvent, faultyEvent, wideEvent,
		func(from *rand.Rand, w impl.World) impl.Event { return eventBy(from, w, 2) },
		func(from *rand.Rand, w impl.World) impl.Event { return eventBy(from, w, 20) },
	}
	runs := make([]seen, 240)
	t.Run("runs", func(t *testing.T) {
		for run := range runs {
			runs[run] = seen{}
			t.Run(fmt.Sprint(run), func(t *testing.T) {
				t.Parallel()
				from := rand.New(rand.NewSource(int64(17000 + run)))
				w := impl.WorldNew(1 + run%8)
				for range 6 {
					for range 5 + from.Intn(135) {
						e := fewEvent(from, w, draws[run/8%5])
						next, ok := impl.Do(w, e)
						if ok {
							runs[run].note(w, e, next)
						}
						w = next
					}
					now := quietens(t, "run", w)
					runs[run].noteQuiet(w, now)
					if from.Intn(3) == 0 {
						w = impl.Settle(w, from.Intn(4))
					}
				}
			})
		}
	})
	m := seen{}
	for _, run := range runs {
		for name, count := range run {
			m[name] += count
		}
	}
	m.atLeast(t, 200, eventNames[1:]...)
	m.atLeast(t, 200, "held", "done", "gone", "heard ahead of others", "vote behind a choice", "crash kept nothing", "crash kept all")
	m.atLeast(t, 30, "crash kept some", "fall kept nothing", "fall kept all", "as many orders as may be", "more than one round")
	m.atLeast(t, 100, "words on their way", "words that wait", "choices that are not sure", "jobs that ask", "records that are not sure", "held in this life", "held of an earlier life, and decided", "held of an earlier life, and not decided", "held and done", "held and gone", "decided then: true", "decided then: false")
}

// All worlds, not some of them, that come of a new one with few orders and few words on their way come to rest.
func TestAllSmallWorldsComeToRest(t *testing.T) {
	list := []struct {
		n, words, lives int
		orders          []string
	}{
		{1, 3, 2, []string{"a=1"}},
		{1, 2, 1, []string{"a=1", "a=2"}},
		{1, 1, 2, []string{"a=1", "-a b=1"}},
		{2, 2, 2, []string{"a=1 b=1"}},
		{2, 1, 1, []string{"a=1 b=1", "-b"}},
	}
	for _, x := range list {
		t.Run(fmt.Sprint(x), func(t *testing.T) {
			t.Parallel()
			m := allWorlds(t, x.n, x.words, x.lives, x.orders, unquiet)
			m.atLeast(t, 30, "hear", "drop", "sure", "held", "done", "gone", "crash kept nothing", "crash kept all")
		})
	}
}

// plays is Play of however many events.
func plays(w impl.World, list []impl.Event) impl.World {
	for part := range slices.Chunk(list, mostPlay) {
		w = impl.Play(w, part)
	}
	return w
}

// wholeOrders begins as many orders as may be, each with a key of each of eight shards; no two have a key in common where alike is false.
func wholeOrders(alike bool) []impl.Event {
	list := []impl.Event{}
	for i := range mostOrders {
		e := impl.Event{Kind: impl.EvBegin}
		for at := range 8 {
			key := shardPairs(at, 8, mostOrders)[i].Key
			if alike {
				key = shardPairs(at, 8, 1)[0].Key
			}
			e.Ops = append(e.Ops, impl.Op{Kind: impl.OpPut, Key: key, Val: fmt.Sprint(i)})
		}
		slices.SortFunc(e.Ops, func(a impl.Op, b impl.Op) int { return strings.Compare(a.Key, b.Key) })
		list = append(list, e)
	}
	return list
}

// As many orders as may be, each on all shards, come to rest wherever they are left.
func TestFortyOrdersOnAllShards(t *testing.T) {
	all := func(text string, count int) []impl.Event { return slices.Repeat(eventsOf(text), count) }
	each := func(name string, keep int) []impl.Event {
		list := []impl.Event{}
		for at := range 8 {
			list = append(list, eventOf(fmt.Sprint(name, " ", at, " ", keep)))
		}
		return list
	}
	heard := all("hear 0", 320)
	voted := slices.Concat(heard, each("sure", 0), heard)
	for _, x := range []struct {
		what        string
		events      []impl.Event
		done, alike int
	}{
		{"on its way", nil, 40, 1},
		{"all words lost", all("drop 0", 320), 40, 1},
		{"each second word lost", all("hear 0; drop 0", 160), 40, 1},
		{"a full Net", all("double 7", 80), 40, 1},
		{"a full Net, all of one word", slices.Concat(all("drop 0", 319), all("double 0", 399)), 40, 0},
		{"heard from the end on", slices.Concat(all("double 319", 80), all("hear 399; hear 398; hear 397", 1)), 40, 0},
		{"held", heard, 40, 1},
		{"held, and a full Outs", slices.Concat(heard, all("tell", 1), heard, all("tell", 1), heard), 40, 1},
		{"held, and the votes lost", slices.Concat(heard, each("crash", 999)), 40, 1},
		{"held and lost", slices.Concat(heard, each("crash", 0)), 40, 1},
		{"held, some lost", slices.Concat(heard, each("crash", 17)), 40, 1},
		{"held, of an earlier life", slices.Concat(heard, all("fall", 1)), 0, 0},
		{"votes on their way", voted[:328], 40, 1},
		{"votes on their way, of an earlier life", append(slices.Clone(voted[:328]), eventOf("fall")), 0, 0},
		{"half of the votes heard", voted[:328+300], 40, 1},
		{"decided", voted, 40, 1},
		{"decided and lost", append(slices.Clone(voted), eventOf("fall 0")), 0, 0},
		{"decided, some lost", append(slices.Clone(voted), eventOf("fall 39")), 39, 0},
		{"decided and kept", append(slices.Clone(voted), eventOf("fall 40")), 40, 1},
		{"decided for sure, of an earlier life", append(slices.Clone(voted), eventsOf("decide; fall 0")...), 40, 1},
		{"told", append(slices.Clone(voted), eventsOf("decide; tell")...), 40, 1},
		{"told, and not sure", slices.Concat(voted, eventsOf("decide; tell"), heard, each("crash", 0)), 40, 1},
		{"told, some heard, of an earlier life", slices.Concat(voted, eventsOf("decide; tell"), heard[:133], each("crash", 2), eventsOf("fall 0")), 40, 1},
		{"asked", slices.Concat(voted, eventsOf("decide; fall"), each("ask", 0)), 40, 1},
	} {
		for alike, want := range map[bool]int{false: x.done, true: x.alike} {
			t.Run(fmt.Sprint(x.what, ", of the same keys: ", alike), func(t *testing.T) {
				t.Parallel()
				w := plays(impl.WorldNew(8), append(wholeOrders(alike), x.events...))
				now, done := quietens(t, "all", w), 0
				for _, choice := range now.C.Log {
					if choice.Yes {
						done++
					}
				}
				if len(w.Begun) != mostOrders || done != want || !alike && len(impl.Tables(now)) != 8*want {
					t.Errorf("%d of %d are done, not %d, and %d keys are there", done, len(w.Begun), want, len(impl.Tables(now)))
				}
			})
		}
	}
}

// Whatever is lost, doubled or crashes, at whatever place of a way that orders go: three rounds make it rest, whether the way is gone to its end or not.
func TestOneFaultAtAnyPlace(t *testing.T) {
	faults := strings.Split("drop 0, drop 1, double 0, double 1; hear 1, ask 1, ask 2; hear 0, tell, decide, fall 0, fall 1, crash 1 0, crash 1 1, crash 2 0, crash 2 1, crash 1; crash 2, crash 1; fall, fall; fall, hear 1, sure 1, begin a=9 c=9, begin b=9, fall; begin a=9 c=9", ",")
	for _, way := range []string{
		"begin a=1 c=1; hear 0; hear 0; sure 1; sure 2; hear 0; hear 0; decide; tell; hear 0; hear 0; sure 1; sure 2",
		"begin a=1 c=1; begin c=2 d=2; hear 0; hear 0; hear 0; hear 0; sure 2; sure 1; hear 0; hear 0; hear 0; hear 0; decide; tell; hear 0; hear 0; hear 0; hear 0; tell; hear 0; hear 0",
		"begin a=1; hear 0; sure 1; hear 0; decide; begin -a c?; tell; hear 2; hear 0; hear 0; sure 1; sure 2; hear 0; hear 0; decide; tell; hear 1; hear 0",
		"begin a?1 c=1; hear 1; sure 2; hear 1; hear 0; sure 1; hear 0; decide; fall; ask 2; hear 0; hear 0; begin a=3 c=3; hear 0; hear 0; sure 1; sure 2; hear 0; hear 0",
	} {
		list := eventsOf(way)
		for at := range len(list) + 1 {
			for _, fault := range faults {
				w := plays(plays(impl.WorldNew(3), list[:at]), eventsOf(fault))
				what := fmt.Sprint(way, ": at ", at, fault)
				quietens(t, what, w)
				quietens(t, what+", and on", plays(w, list[at:]))
				for _, other := range []string{"crash 1 1", "crash 2 0", "fall 1", "fall 0", "drop 0"} {
					if at+2 < len(list) {
						quietens(t, what+", then "+other, plays(plays(w, list[at:at+2]), eventsOf(other)))
					}
				}
			}
		}
	}
}

// An order whose votes were said and whose decision was lost with who decides is let go by all that hold it, and its keys are free.
func TestDecisionsThatAreLost(t *testing.T) {
	for n := 1; n <= 8; n++ {
		order := wholeOrders(true)[7]
		w := impl.Play(impl.WorldNew(n), []impl.Event{order})
		shards, _ := shardsByHand(order.Ops, n)
		for range shards {
			w, _ = impl.Do(w, eventOf("hear 0"))
		}
		for at := range n {
			w, _ = impl.Do(w, impl.Event{Kind: impl.EvSure, At: at})
		}
		said := w
		for range shards {
			w, _ = impl.Do(w, eventOf("hear 0"))
		}
		if !slices.Equal(w.C.Log, logOf("1000+")) || w.C.Sure != 0 || len(w.Net) != 0 || len(said.Net) != len(shards) {
			t.Fatalf("%d shards: it is not decided: %q", n, worldTold(w))
		}
		for what, x := range map[string]struct {
			w    impl.World
			done bool
		}{
			"decided":                   {w, true},
			"lost":                      {plays(w, eventsOf("fall 0")), false},
			"kept":                      {plays(w, eventsOf("fall 1")), true},
			"sure":                      {plays(w, eventsOf("decide; fall 0")), true},
			"told in vain":              {plays(w, eventsOf("tell; fall 0")), false},
			"lost twice":                {plays(w, eventsOf("fall 0; fall 0")), false},
			"lost, and another begun":   {plays(w, eventsOf("fall 0; begin zz=1")), false},
			"the votes not heard":       {plays(said, eventsOf("fall 0")), false},
			"the votes heard too late":  {plays(said, eventsOf("fall 0; hear 0; decide; tell")), false},
			"the votes lost":            {plays(said, slices.Repeat(eventsOf("drop 0"), len(shards))), true},
			"the votes lost, of before": {plays(said, append(slices.Repeat(eventsOf("drop 0"), len(shards)), eventOf("fall 9"))), false},
		} {
			now := quietens(t, fmt.Sprint(what, " of ", n), x.w)
			code, pairs := impl.HoldGone, 0
			if x.done {
				code, pairs = impl.HoldDone, 8
			}
			for _, at := range shards {
				if got := impl.Outcome(now.Shards[at], 1000); got != code {
					t.Errorf("%s: it is %d at %d of %d", what, got, at, n)
				}
			}
			for _, p := range impl.Tables(now) {
				if p.Key != "zz" {
					pairs--
				}
			}
			again := quietens(t, "once more", impl.Play(now, []impl.Event{wholeOrders(true)[9]}))
			if val, _ := impl.ReadAt(again, order.Ops[0].Key); pairs != 0 || val != "9" {
				t.Errorf("%s: %d keys lack, and a new order reads %q", what, pairs, val)
			}
		}
	}
}

// oddWord draws a word of n shards that nobody may have said.
func oddWord(from *rand.Rand, n int) impl.Word {
	word := impl.Word{Kind: 1 + from.Intn(4), Shard: from.Intn(n), Tx: 1000*from.Intn(4) + from.Intn(12)}
	word.Tx = max(word.Tx, 1)
	if from.Intn(20) == 0 {
		word.Tx = 1000000
	}
	if word.Kind == impl.WordHold {
		word.Ops = roughOps(from)
	} else if word.Kind != impl.WordAsk {
		word.Yes = from.Intn(2) > 0
	}
	return word
}

// odd is a world with some things in it that events do not bring about; most of them are right all the same.
func odd(t *testing.T, from *rand.Rand, w impl.World) impl.World {
	w = copyWorld(w)
	for range from.Intn(12) {
		w.Net = slices.Insert(w.Net, from.Intn(len(w.Net)+1), oddWord(from, len(w.Shards)))
	}
	for range from.Intn(6) {
		w.Outs = slices.Insert(w.Outs, from.Intn(len(w.Outs)+1), oddWord(from, len(w.Shards)))
	}
	if from.Intn(2) > 0 {
		w.C.Sure = from.Intn(len(w.C.Log) + 1)
	}
	at := from.Intn(len(w.Shards))
	log := bentLog(from, copyRecs(w.Shards[at].Log), 1000+from.Intn(9))
	if _, _, ok := replayByHand(log); ok {
		w.Shards[at] = shardBy(t, at, log, from.Intn(len(log)+1))
	}
	if from.Intn(8) == 0 {
		return bent(t, from, w)
	}
	return w
}

// Whatever world it is given, each call answers by the chapter's words.
func TestOddWorldsGoByTheWords(t *testing.T) {
	from := rand.New(rand.NewSource(172))
	m := seen{}
	for run := range 400 {
		w := impl.WorldNew(1 + run%8)
		for range 10 + from.Intn(80) {
			w, _ = impl.Do(w, roughEvent(from, w))
		}
		w = odd(t, from, w)
		m[fmt.Sprint("right ", worldByHand(w))]++
		drains(t, "odd", w)
		now := rounds(t, "odd", w)
		m.noteIf("it rests", worldByHand(w) && restingByHand(now))
		m.noteIf("it does not rest", worldByHand(w) && !restingByHand(now))
		opens(t, "odd", w, openByHand(w))
		opens(t, "odd, behind a round", now, openByHand(now))
		if next := rounds(t, "odd, once more", now); !sameWorld(impl.Settle(w, 2), next) {
			t.Fatalf("run %d: two rounds are not Settle of two", run)
		}
	}
	m.atLeast(t, 20, "right true", "right false", "it rests", "it does not rest")
}

// scatter fills a value with whatever may be there.
func scatter(from *rand.Rand, v reflect.Value) {
	switch v.Kind() {
	case reflect.Struct:
		for i := range v.NumField() {
			scatter(from, v.Field(i))
		}
	case reflect.Slice:
		v.Set(reflect.MakeSlice(v.Type(), from.Intn(4), 4))
		for i := range v.Len() {
			scatter(from, v.Index(i))
		}
	case reflect.Int:
		v.SetInt([]int64{0, 1, 1, 1, 2, 3, 4, 7, 8, -1, 300, 999, 1000, 1001, 2000, math.MaxInt, math.MinInt}[from.Intn(17)])
	case reflect.String:
		v.SetString([]string{"", "a", "b", "c", "zz", "A", "\xff", strings.Repeat("x", 30)}[from.Intn(8)])
	case reflect.Bool:
		v.SetBool(from.Intn(2) > 0)
	}
}

func TestAnyWorldIsAnswered(t *testing.T) {
	from := rand.New(rand.NewSource(173))
	for range 3000 {
		w := impl.World{}
		scatter(from, reflect.ValueOf(&w).Elem())
		if from.Intn(3) == 0 {
			w.C = impl.CoordNew(len(w.Shards))
		}
		if from.Intn(3) == 0 {
			w.Shards = impl.WorldNew(3).Shards
		}
		drains(t, "any", w)
		rounds(t, "any", w)
		opens(t, "any", w, openByHand(w))
		for _, n := range []int{math.MinInt, -1, 0, 2, mostRounds, mostRounds + 1, math.MaxInt} {
			if got := impl.Settle(w, n); !worldByHand(w) && !sameWorld(got, w) {
				t.Fatalf("settled by %d it is not as it was: %q", n, worldTold(w))
			}
		}
	}
}

func quietActs() map[string]func(w impl.World) impl.World {
	acts := map[string]func(w impl.World) impl.World{"drain": impl.Drain, "round": impl.Round}
	for _, n := range []int{-1, 0, 1, 2, mostRounds, mostRounds + 1} {
		acts[fmt.Sprint("settle ", n)] = func(w impl.World) impl.World { return impl.Settle(w, n) }
	}
	return acts
}

func TestQuietTimesLeaveTheirArgument(t *testing.T) {
	full := busyWorld(t)
	full.Net, full.Outs = append(asking(mostNet-7), full.Net...), append(full.Outs, asking(mostNet-6)...)
	worlds := []impl.World{{}, impl.WorldNew(1), impl.WorldNew(8), busyWorld(t), holding(t), settled(t), full, overfull(t), manyBegun(mostBegun)}
	for _, events := range []string{"begin a=1 c=1; begin b=1", "begin a=1 c=1; hear 0; double 0; sure 1", "begin a=1; fall; begin a=2; hear 0; hear 0"} {
		worlds = append(worlds, impl.Play(impl.WorldNew(3), eventsOf(events)))
	}
	for _, what := range []string{"N 4", "a shard too many", "in Net vote 0 7 a=1", "begun twice 3", "C: a job twice", "shard: Held twice"} {
		worlds = append(worlds, wrongWorlds(t)[what])
	}
	for i, w := range worlds {
		for name, act := range quietActs() {
			what := fmt.Sprint("world ", i, ", ", name)
			want := act(copyWorld(w))
			given := withSpare(w)
			before := wholeOf(given)
			first, second := act(given), act(given)
			if !sameWorld(first, want) || !sameWorld(second, want) || impl.Open(given) != openByHand(w) {
				t.Errorf("%s: read behind a list's end", what)
			}
			if !reflect.DeepEqual(wholeOf(given), before) {
				t.Errorf("%s: written into", what)
			}
			shareNothing(t, what, given, first, second)
		}
	}
}

// A world whose own lists are one memory is answered with lists of their own.
func TestQuietTimesOfOneMemory(t *testing.T) {
	ops, yes := opsOf("a=1 b=2"), []int{0}
	recs := []impl.Rec{{Kind: impl.RecHold, Tx: 1000, Ops: ops}}
	words := []impl.Word{{Kind: impl.WordHold, Tx: 1000, Ops: ops}, {Kind: impl.WordHold, Tx: 1001, Ops: ops}, {Kind: impl.WordVote, Tx: 1000, Yes: true}, {Kind: impl.WordAsk, Tx: 1000}}
	w := impl.World{
		C:      impl.Coord{N: 1, Life: 1, Next: 2, Jobs: []impl.Job{{Tx: 1000, Ops: ops, State: impl.JobAsks}, {Tx: 1001, Ops: ops, State: impl.JobYes, Yes: yes}}, Log: logOf("1001+"), Sure: 1},
		Shards: []impl.Shard{{Log: recs, Held: recs}},
		Net:    words, Outs: words,
		Begun: []impl.Order{{Tx: 1000, Ops: ops}, {Tx: 1001, Ops: ops}},
	}
	isWorld(t, "of one memory", true, w)
	drains(t, "of one memory", w)
	rounds(t, "of one memory", w)
	before := wholeOf(w)
	for name, act := range quietActs() {
		first, second := act(w), act(w)
		if !reflect.DeepEqual(wholeOf(w), before) || !sameWorld(first, second) {
			t.Fatalf("%s: written into", name)
		}
		shareNothing(t, name, first, second)
		for _, mine := range spansOf(reflect.ValueOf(first), "the answer") {
			for _, given := range spansOf(reflect.ValueOf(w), "the world") {
				if mine.from < given.end && given.from < mine.end {
					t.Fatalf("%s: %s and %s share memory", name, mine.where, given.where)
				}
			}
		}
	}
}

// What lies behind the end of a list is not heard, is not sent, and holds nothing open.
func TestWhatLiesBehindTheEndIsNotHeard(t *testing.T) {
	base := worldOf(t, 3, "c 2 1 : 2000 a=1 / asks : 1000+ : 1 \n 1 : 1000 b=1 : 1 \n begun : 1000 b=1; 2000 a=1")
	drained, round := drains(t, "as it is", base), rounds(t, "as it is", base)
	for what, change := range map[string]func(w *impl.World){
		"words on their way": func(w *impl.World) { w.Net = wordsOf("hold 1 2000 a=1; tell 1 1000 yes; vote 1 2000 yes")[:0] },
		"words that wait":    func(w *impl.World) { w.Outs = wordsOf("vote 1 2000 yes; hold 2 7 c=1")[:0] },
		"what is held":       func(w *impl.World) { w.Shards[1].Held = append(w.Shards[1].Held, recsOf("7 d=1")...)[:1] },
		"a record":           func(w *impl.World) { w.Shards[1].Log = append(w.Shards[1].Log, recsOf("7 d=1; 1000-")...)[:1] },
		"a pair":             func(w *impl.World) { w.Shards[1].Map = pairsOf("a=2 b=2")[:0] },
		"a shard":            func(w *impl.World) { w.Shards = append(w.Shards, impl.ShardNew(3))[:3] },
		"a job":              func(w *impl.World) { w.C.Jobs = append(w.C.Jobs, jobsOf("2001 c=1 / asks")...)[:1] },
		"a choice":           func(w *impl.World) { w.C.Log = append(w.C.Log, logOf("2000-")...)[:1] },
		"a vote":             func(w *impl.World) { w.C.Jobs[0].Yes = []int{1}[:0] },
		"an order":           func(w *impl.World) { w.Begun = append(w.Begun, begunOf("2000 a=2")...)[:2] },
	} {
		w := changed(base, change)
		if !sameWorld(impl.Drain(w), drained) || !sameWorld(impl.Round(w), round) || impl.Open(w) != 2 {
			t.Errorf("%s behind the end: Open is %d, Round is\n%s", what, impl.Open(w), strings.Join(worldTold(impl.Round(w)), "\n"))
		}
	}
}
