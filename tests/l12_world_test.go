package tests

import (
	"cmp"
	"fmt"
	"math"
	"math/rand"
	"reflect"
	"slices"
	"strconv"
	"strings"
	"testing"

	"loop.example/g00244/impl"
)

const (
	mostNet   = 400
	mostBegun = 1000
	mostPlay  = 200
)

// Of three shards these keys are at: 0 g k m, 1 a b d h, 2 c e f i j l.

var eventNames = []string{"", "begin", "hear", "drop", "double", "sure", "decide", "tell", "ask", "crash", "fall"}

// eventOf reads an event: begin a=1 -b; hear 0, drop, double, sure and ask alike; decide; tell; crash 0 2 keeps two; fall 2 too.
func eventOf(text string) impl.Event {
	name, rest, _ := strings.Cut(strings.TrimSpace(text), " ")
	e := impl.Event{Kind: slices.Index(eventNames, name)}
	nums := [2]int{}
	for i, word := range strings.Fields(rest) {
		if n, err := strconv.Atoi(word); err == nil {
			nums[i] = n
		}
	}
	switch name {
	case "begin":
		e.Ops = opsOf(rest)
	case "fall":
		e.N = nums[0]
	default:
		e.At, e.N = nums[0], nums[1]
	}
	return e
}

func eventsOf(text string) []impl.Event {
	list := []impl.Event{}
	for _, part := range strings.Split(text, ";") {
		list = append(list, eventOf(part))
	}
	return list
}

// begunOf reads orders that were begun: 1000 a=1 b=2; 1001 -c.
func begunOf(text string) []impl.Order {
	list := []impl.Order{}
	for _, r := range recsOf(text) {
		list = append(list, impl.Order{Tx: r.Tx, Ops: r.Ops})
	}
	return list
}

func sameOrder(a impl.Order, b impl.Order) bool {
	return a.Tx == b.Tx && slices.Equal(a.Ops, b.Ops)
}

func sameWorld(a impl.World, b impl.World) bool {
	return sameCoord(a.C, b.C) && slices.EqualFunc(a.Shards, b.Shards, sameShard) && sameWords(a.Net, b.Net) && sameWords(a.Outs, b.Outs) && slices.EqualFunc(a.Begun, b.Begun, sameOrder)
}

func copyWorld(w impl.World) impl.World {
	w.C, w.Net, w.Outs = copyCoord(w.C), copyWords(w.Net), copyWords(w.Outs)
	w.Shards, w.Begun = slices.Clone(w.Shards), slices.Clone(w.Begun)
	for i := range w.Shards {
		w.Shards[i] = copyShard(w.Shards[i])
	}
	for i := range w.Begun {
		w.Begun[i].Ops = slices.Clone(w.Begun[i].Ops)
	}
	return w
}

// told puts what each of a list says together, as the readers of these texts want it.
func told[E any](l []E, say func(E) string, between string) string {
	list := []string{}
	for _, e := range l {
		list = append(list, strings.TrimSpace(say(e)))
	}
	return strings.Join(list, between)
}

func nameOf(names string, kind int) string {
	list := strings.Split(names, ",")
	if kind < 1 || kind > len(list) {
		return fmt.Sprint("kind", kind)
	}
	return list[kind-1]
}

func opsTold(l []impl.Op) string {
	return told(l, func(o impl.Op) string {
		switch o.Kind {
		case impl.OpPut:
			return o.Key + "=" + o.Val
		case impl.OpDel:
			return "-" + o.Key
		case impl.OpNeed:
			return o.Key + "?" + o.Val
		}
		return fmt.Sprint(o.Kind, ":", o.Key, "=", o.Val)
	}, " ")
}

func recsTold(l []impl.Rec) string {
	return told(l, func(r impl.Rec) string {
		return fmt.Sprint(r.Tx) + nameOf(" ,+,-", r.Kind) + opsTold(r.Ops)
	}, "; ")
}

func wordsTold(l []impl.Word) string {
	return told(l, func(w impl.Word) string {
		text := fmt.Sprint(nameOf("hold,vote,tell,ask", w.Kind), " ", w.Shard, " ", w.Tx, " ", opsTold(w.Ops))
		if w.Yes {
			text += "yes"
		}
		return text
	}, "; ")
}

func coordTold(c impl.Coord) string {
	jobs := told(c.Jobs, func(j impl.Job) string {
		return fmt.Sprint(j.Tx, " ", opsTold(j.Ops), " / ", nameOf("asks,yes,no", j.State), " ", told(j.Yes, strconv.Itoa, " "))
	}, "; ")
	log := told(c.Log, func(x impl.Choice) string {
		if x.Yes {
			return fmt.Sprint(x.Tx, "+")
		}
		return fmt.Sprint(x.Tx, "-")
	}, " ")
	return fmt.Sprint("c ", c.Life, " ", c.Next, " : ", jobs, " : ", log, " : ", c.Sure)
}

func oneBlank(line string) string {
	return strings.TrimRight(strings.Join(strings.Fields(line), " "), "; ")
}

// worldTold has a line for each part of a world: who decides, each shard, and its three lists.
func worldTold(w impl.World) []string {
	lines := []string{coordTold(w.C)}
	for i, s := range w.Shards {
		pairs := told(s.Map, func(p impl.Pair) string { return p.Key + "=" + p.Val }, " ")
		lines = append(lines, fmt.Sprint(i, " : ", recsTold(s.Log), " : ", s.Sure, " : ", pairs, " : ", recsTold(s.Held)))
	}
	begun := told(w.Begun, func(o impl.Order) string { return fmt.Sprint(o.Tx, " ", opsTold(o.Ops)) }, "; ")
	lines = append(lines, "net : "+wordsTold(w.Net), "outs : "+wordsTold(w.Outs), "begun : "+begun)
	for i := range lines {
		lines[i] = oneBlank(lines[i])
	}
	return lines
}

// worldOf reads a world of n shards from lines as worldTold has them; Map and Held are what the records make by hand.
func worldOf(t *testing.T, n int, text string) impl.World {
	t.Helper()
	w := impl.WorldNew(n)
	for _, line := range strings.Split(text, "\n") {
		parts := strings.Split(line, ":")
		head := strings.Fields(parts[0])
		if len(head) == 0 {
			continue
		}
		switch head[0] {
		case "c":
			life, _ := strconv.Atoi(head[1])
			next, _ := strconv.Atoi(head[2])
			sure, _ := strconv.Atoi(strings.TrimSpace(parts[3]))
			w.C = coordOf(n, life, next, parts[1], parts[2], sure)
		case "net":
			w.Net = wordsOf(parts[1])
		case "outs":
			w.Outs = wordsOf(parts[1])
		case "begun":
			w.Begun = begunOf(parts[1])
		default:
			id, _ := strconv.Atoi(head[0])
			sure, _ := strconv.Atoi(strings.TrimSpace(parts[2]))
			w.Shards[id] = shardBy(t, id, recsOf(parts[1]), sure)
		}
	}
	return w
}

func begunByHand(w impl.World, tx int) int {
	return slices.IndexFunc(w.Begun, func(o impl.Order) bool { return o.Tx == tx })
}

// worldByHand goes by the chapter's words, and looks through all orders each time.
func worldByHand(w impl.World) bool {
	if !coordByHand(w.C) || len(w.Shards) != w.C.N || len(w.Net) > 400 || len(w.Outs) > 400 || len(w.Begun) > 1000 {
		return false
	}
	for i, s := range w.Shards {
		if s.Id != i || !okByHand(s) {
			return false
		}
	}
	for _, word := range slices.Concat(w.Net, w.Outs) {
		if !wordByHand(word) || word.Shard > w.C.N-1 {
			return false
		}
	}
	for i, o := range w.Begun {
		if o.Tx < 1000 || o.Tx > 1000*w.C.Life+w.C.Next-1 || !impl.OpsOk(o.Ops) || begunByHand(w, o.Tx) != i {
			return false
		}
	}
	for _, x := range w.C.Log {
		if begunByHand(w, x.Tx) < 0 {
			return false
		}
	}
	for _, j := range w.C.Jobs {
		if at := begunByHand(w, j.Tx); at < 0 || !slices.Equal(w.Begun[at].Ops, j.Ops) {
			return false
		}
	}
	return true
}

// roomByHand puts one word behind another, each if there is room.
func roomByHand(l []impl.Word, words ...impl.Word) []impl.Word {
	for _, word := range words {
		if len(l) < 400 {
			l = append(l, word)
		}
	}
	return l
}

func heardByHand(w impl.World, word impl.Word) impl.World {
	s := &w.Shards[word.Shard]
	code, yes, known := 0, false, false
	switch word.Kind {
	case impl.WordHold:
		*s, code = holdByHand(*s, word.Tx, word.Ops)
		if code == impl.HoldYes || code == impl.HoldNo || code == impl.HoldDone || code == impl.HoldGone {
			w.Outs = roomByHand(w.Outs, impl.Word{Kind: impl.WordVote, Shard: word.Shard, Tx: word.Tx, Yes: code%2 == 1})
		}
	case impl.WordTell:
		*s, _ = decideByHand(*s, word.Tx, word.Yes)
	case impl.WordVote:
		w.C = voteByHand(w.C, word.Shard, word.Tx, word.Yes)
	case impl.WordAsk:
		if yes, known = answerByHand(w.C, word.Tx); known {
			w.Net = roomByHand(w.Net, impl.Word{Kind: impl.WordTell, Shard: word.Shard, Tx: word.Tx, Yes: yes})
		}
	}
	return w
}

// netByHand does what is done at a place of Net.
func netByHand(w impl.World, e impl.Event) (impl.World, bool) {
	if e.At < 0 || e.At >= len(w.Net) {
		return w, false
	}
	next, word := copyWorld(w), w.Net[e.At]
	if e.Kind == impl.EvDouble {
		next.Net = roomByHand(next.Net, word)
		return next, true
	}
	next.Net = append(copyWords(w.Net[:e.At]), copyWords(w.Net[e.At+1:])...)
	if e.Kind == impl.EvHear {
		next = heardByHand(next, word)
	}
	return next, true
}

// shardByHand does what is done at one shard.
func shardByHand(w impl.World, e impl.Event) (impl.World, bool) {
	if e.At < 0 || e.At >= len(w.Shards) {
		return w, false
	}
	next := copyWorld(w)
	s := &next.Shards[e.At]
	if e.Kind == impl.EvAsk {
		for _, r := range s.Held {
			next.Net = roomByHand(next.Net, impl.Word{Kind: impl.WordAsk, Shard: e.At, Tx: r.Tx})
		}
		return next, true
	}
	next.Outs = nil
	for _, word := range w.Outs {
		if word.Shard != e.At {
			next.Outs = append(next.Outs, word)
		} else if e.Kind == impl.EvSure {
			next.Net = roomByHand(next.Net, word)
		}
	}
	if e.Kind == impl.EvCrash {
		*s = crashByHand(*s, e.N)
	} else if okByHand(*s) {
		s.Sure = len(s.Log)
	}
	return next, true
}

// stepByHand does not ask whether the world is right.
func stepByHand(w impl.World, e impl.Event) (impl.World, bool) {
	next := copyWorld(w)
	switch e.Kind {
	case impl.EvBegin:
		c, words, tx := beginByHand(w.C, e.Ops)
		if tx == 0 || len(w.Begun) >= 1000 {
			return w, false
		}
		next.C, next.Net, next.Begun = c, roomByHand(next.Net, words...), append(next.Begun, impl.Order{Tx: tx, Ops: e.Ops})
		return next, true
	case impl.EvHear, impl.EvDrop, impl.EvDouble:
		return netByHand(w, e)
	case impl.EvSure, impl.EvAsk, impl.EvCrash:
		return shardByHand(w, e)
	case impl.EvDecide:
		next.C = sureByHand(next.C)
		return next, true
	case impl.EvTell:
		next.Net = roomByHand(next.Net, tellByHand(w.C)...)
		return next, true
	case impl.EvFall:
		next.C = fallByHand(w.C, e.N)
		return next, w.C.Life != 900
	}
	return w, false
}

func doByHand(w impl.World, e impl.Event) (impl.World, bool) {
	if !worldByHand(w) {
		return w, false
	}
	return stepByHand(w, e)
}

func playByHand(w impl.World, list []impl.Event) impl.World {
	if !worldByHand(w) {
		return w
	}
	for i := 0; i < len(list) && i < 200; i++ {
		w, _ = stepByHand(w, list[i])
	}
	return w
}

func isWorld(t *testing.T, what string, want bool, w impl.World) {
	t.Helper()
	if impl.WorldOk(w) != want || worldByHand(w) != want {
		t.Errorf("%s: WorldOk is %v, by hand %v, of %q", what, impl.WorldOk(w), worldByHand(w), worldTold(w))
	}
}

// does asks what Do answers of an event, and that Play answers the same of this one alone.
func does(t *testing.T, w impl.World, e impl.Event, ok bool) impl.World {
	t.Helper()
	want, byHand := doByHand(w, e)
	before := copyWorld(w)
	next, got := impl.Do(w, e)
	if got != ok || byHand != ok || !sameWorld(next, want) || !ok && !sameWorld(next, w) {
		t.Fatalf("Do of %v is %v, not %v, by hand %v:\n%s\nnot\n%s", e, got, ok, byHand, strings.Join(worldTold(next), "\n"), strings.Join(worldTold(want), "\n"))
	}
	if played := impl.Play(w, []impl.Event{e}); !sameWorld(played, want) {
		t.Fatalf("Play of %v:\n%s", e, strings.Join(worldTold(played), "\n"))
	}
	if !sameWorld(w, before) {
		t.Fatalf("%v: the world is not as it was", e)
	}
	return next
}

// goes plays a script: a line > tells an event that is done, ! one that is refused; the lines behind it are all that is then another than it was.
func goes(t *testing.T, w impl.World, script string) impl.World {
	t.Helper()
	isWorld(t, "at the beginning", true, w)
	for _, step := range regroup(script) {
		next := does(t, w, eventOf(step[0][1:]), step[0][0] == '>')
		isWorld(t, step[0], true, next)
		before, changed := worldTold(w), []string{}
		for i, line := range worldTold(next) {
			if line != before[i] {
				changed = append(changed, line)
			}
		}
		if !slices.Equal(changed, step[1:]) {
			t.Fatalf("%s: what changed is\n%s\nnot\n%s", step[0], strings.Join(changed, "\n"), strings.Join(step[1:], "\n"))
		}
		w = next
	}
	return w
}

// regroup gives each event's line with those behind it.
func regroup(script string) [][]string {
	steps := [][]string{}
	for _, line := range strings.Split(script, "\n") {
		switch line = oneBlank(line); {
		case line == "":
		case line[0] == '>' || line[0] == '!':
			steps = append(steps, []string{line})
		default:
			steps[len(steps)-1] = append(steps[len(steps)-1], line)
		}
	}
	return steps
}

func TestKindsOfEvents(t *testing.T) {
	for i, kind := range []int{impl.EvBegin, impl.EvHear, impl.EvDrop, impl.EvDouble, impl.EvSure, impl.EvDecide, impl.EvTell, impl.EvAsk, impl.EvCrash, impl.EvFall} {
		if kind != 1+i {
			t.Errorf("%s is %d", eventNames[1+i], kind)
		}
	}
	if impl.MaxNet != mostNet {
		t.Error("MaxNet is", impl.MaxNet)
	}
	w := busyWorld(t)
	kinds := []int{math.MinInt, math.MaxInt, 1 << 32, 1<<32 + 1, 1<<62 + 2, impl.MaxNum}
	for kind := -300; kind <= 300; kind++ {
		kinds = append(kinds, kind)
	}
	for _, kind := range kinds {
		does(t, w, impl.Event{Kind: kind, Ops: opsOf("a=1")}, kind >= 1 && kind <= 10)
	}
}

func TestNewWorlds(t *testing.T) {
	counts := []int{math.MinInt, math.MaxInt, 1 << 32, 1<<32 + 3, -1 << 32}
	for n := -20; n <= 20; n++ {
		counts = append(counts, n)
	}
	for _, n := range counts {
		right := n >= 1 && n <= 8
		want := impl.World{}
		if right {
			want.C = impl.Coord{N: n, Life: 1}
			for id := range n {
				want.Shards = append(want.Shards, impl.Shard{Id: id})
			}
		}
		w := impl.WorldNew(n)
		if !sameWorld(w, want) {
			t.Errorf("WorldNew(%d) = %v", n, w)
		}
		isWorld(t, "new", right, w)
		does(t, w, eventOf("begin a=1 b=2 c=3"), right)
		does(t, w, eventOf("decide"), right)
		does(t, w, eventOf("hear 0"), false)
	}
	isWorld(t, "the zero one", false, impl.World{})
}

func TestOrdersAreDoneOnAllShards(t *testing.T) {
	goes(t, impl.WorldNew(3), `
		> begin a=1 b=2 c=3 g=4
		c 1 1 : 1000 a=1 b=2 c=3 g=4 / asks : : 0
		net : hold 0 1000 g=4; hold 1 1000 a=1 b=2; hold 2 1000 c=3
		begun : 1000 a=1 b=2 c=3 g=4
		> hear 1
		1 : 1000 a=1 b=2 : 0 : : 1000 a=1 b=2
		net : hold 0 1000 g=4; hold 2 1000 c=3
		outs : vote 1 1000 yes
		> hear 1
		2 : 1000 c=3 : 0 : : 1000 c=3
		net : hold 0 1000 g=4
		outs : vote 1 1000 yes; vote 2 1000 yes
		> sure 2
		2 : 1000 c=3 : 1 : : 1000 c=3
		net : hold 0 1000 g=4; vote 2 1000 yes
		outs : vote 1 1000 yes
		> hear 0
		0 : 1000 g=4 : 0 : : 1000 g=4
		net : vote 2 1000 yes
		outs : vote 1 1000 yes; vote 0 1000 yes
		> hear 0
		c 1 1 : 1000 a=1 b=2 c=3 g=4 / asks 2 : : 0
		net :
		> sure 0
		0 : 1000 g=4 : 1 : : 1000 g=4
		net : vote 0 1000 yes
		outs : vote 1 1000 yes
		> sure 1
		1 : 1000 a=1 b=2 : 1 : : 1000 a=1 b=2
		net : vote 0 1000 yes; vote 1 1000 yes
		outs :
		> hear 1
		c 1 1 : 1000 a=1 b=2 c=3 g=4 / asks 1 2 : : 0
		net : vote 0 1000 yes
		> hear 0
		c 1 1 : 1000 a=1 b=2 c=3 g=4 / yes 0 1 2 : 1000+ : 0
		net :
		> tell
		> decide
		c 1 1 : 1000 a=1 b=2 c=3 g=4 / yes 0 1 2 : 1000+ : 1
		> tell
		net : tell 0 1000 yes; tell 1 1000 yes; tell 2 1000 yes
		> hear 2
		2 : 1000 c=3; 1000+ : 1 : c=3 :
		net : tell 0 1000 yes; tell 1 1000 yes
		> hear 0
		0 : 1000 g=4; 1000+ : 1 : g=4 :
		net : tell 1 1000 yes
		> hear 0
		1 : 1000 a=1 b=2; 1000+ : 1 : a=1 b=2 :
		net :
		> sure 1
		1 : 1000 a=1 b=2; 1000+ : 2 : a=1 b=2 :
		! hear 0`)
}

func TestOneNoLetsAllGo(t *testing.T) {
	goes(t, impl.WorldNew(3), `
		> begin a=1 c=1
		c 1 1 : 1000 a=1 c=1 / asks : : 0
		net : hold 1 1000 a=1; hold 2 1000 c=1
		begun : 1000 a=1 c=1
		> begin a=2 g=2
		c 1 2 : 1000 a=1 c=1 / asks; 1001 a=2 g=2 / asks : : 0
		net : hold 1 1000 a=1; hold 2 1000 c=1; hold 0 1001 g=2; hold 1 1001 a=2
		begun : 1000 a=1 c=1; 1001 a=2 g=2
		> hear 0
		1 : 1000 a=1 : 0 : : 1000 a=1
		net : hold 2 1000 c=1; hold 0 1001 g=2; hold 1 1001 a=2
		outs : vote 1 1000 yes
		> hear 1
		0 : 1001 g=2 : 0 : : 1001 g=2
		net : hold 2 1000 c=1; hold 1 1001 a=2
		outs : vote 1 1000 yes; vote 0 1001 yes
		> hear 1
		net : hold 2 1000 c=1
		outs : vote 1 1000 yes; vote 0 1001 yes; vote 1 1001
		> sure 1
		1 : 1000 a=1 : 1 : : 1000 a=1
		net : hold 2 1000 c=1; vote 1 1000 yes; vote 1 1001
		outs : vote 0 1001 yes
		> hear 2
		c 1 2 : 1000 a=1 c=1 / asks; 1001 a=2 g=2 / no : 1001- : 0
		net : hold 2 1000 c=1; vote 1 1000 yes
		> decide
		c 1 2 : 1000 a=1 c=1 / asks; 1001 a=2 g=2 / no : 1001- : 1
		> tell
		net : hold 2 1000 c=1; vote 1 1000 yes; hold 1 1000 a=1; hold 2 1000 c=1; tell 0 1001; tell 1 1001
		> hear 4
		0 : 1001 g=2; 1001- : 0 : :
		net : hold 2 1000 c=1; vote 1 1000 yes; hold 1 1000 a=1; hold 2 1000 c=1; tell 1 1001
		> hear 4
		1 : 1000 a=1; 1001- : 1 : : 1000 a=1
		net : hold 2 1000 c=1; vote 1 1000 yes; hold 1 1000 a=1; hold 2 1000 c=1
		> sure 0
		0 : 1001 g=2; 1001- : 2 : :
		net : hold 2 1000 c=1; vote 1 1000 yes; hold 1 1000 a=1; hold 2 1000 c=1; vote 0 1001 yes
		outs :
		> hear 4
		net : hold 2 1000 c=1; vote 1 1000 yes; hold 1 1000 a=1; hold 2 1000 c=1
		> hear 2
		net : hold 2 1000 c=1; vote 1 1000 yes; hold 2 1000 c=1
		outs : vote 1 1000 yes`)
}

// holding is a world in which transactions 1000 to 1006 are held, done and gone at shard 1, and not there at the others.
func holding(t *testing.T) impl.World {
	return worldOf(t, 3, `
		c 2 1 : 2000 a=9 / asks : 1001+ 1002- 1005+ : 2
		1 : 1000 a=1 b=2; 1001 d=3; 1001+; 1002 h=4; 1002-; 1003-; 1005 h=1 : 3
		begun : 1000 a=1 b=2; 1001 d=3; 1002 h=4; 1005 h=1; 2000 a=9`)
}

func TestWordsToHold(t *testing.T) {
	for text, want := range map[string]string{
		"hold 1 1000 a=1 b=2":   "vote 1 1000 yes",
		"hold 1 1000 d=7":       "vote 1 1000 yes",
		"hold 1 1005 h=1":       "vote 1 1005 yes",
		"hold 1 1001 d=3":       "vote 1 1001 yes",
		"hold 1 1002 h=4":       "vote 1 1002",
		"hold 1 1003 d=1":       "vote 1 1003",
		"hold 1 2000 a=9":       "vote 1 2000",
		"hold 1 2000 -b":        "vote 1 2000",
		"hold 1 2000 d?":        "vote 1 2000",
		"hold 1 2000 d?2":       "vote 1 2000",
		"hold 1 2000 d=4 h=5":   "vote 1 2000",
		"hold 1 7 a=9":          "vote 1 7",
		"hold 1 1000000 b=9":    "vote 1 1000000",
		"hold 1 1002 d=4":       "vote 1 1002",
		"hold 1 1001 a=1 b=2":   "vote 1 1001 yes",
		"hold 1 1003 a=1 z?yes": "vote 1 1003",
	} {
		w := holding(t)
		w.Net, w.Outs = wordsOf("ask 0 7; "+text+"; ask 1 8"), wordsOf("vote 0 5 yes; vote 2 6")
		goes(t, w, "> hear 1\n net : ask 0 7; ask 1 8\n outs : vote 0 5 yes; vote 2 6; "+want)
	}
	log := "1 : 1000 a=1 b=2; 1001 d=3; 1001+; 1002 h=4; 1002-; 1003-; 1005 h=1; "
	for text, want := range map[string]string{
		"hold 1 2000 d=4":     log + "2000 d=4 : 3 : d=3 : 1000 a=1 b=2; 1005 h=1; 2000 d=4\n outs : vote 1 2000 yes",
		"hold 1 7 d?3 dd?":    log + "7 d?3 dd? : 3 : d=3 : 1000 a=1 b=2; 1005 h=1; 7 d?3 dd?\n outs : vote 1 7 yes",
		"hold 1 1000000 -d":   log + "1000000 -d : 3 : d=3 : 1000 a=1 b=2; 1005 h=1; 1000000 -d\n outs : vote 1 1000000 yes",
		"hold 0 1000 a=1 b=2": "0 : 1000 a=1 b=2 : 0 : : 1000 a=1 b=2\n outs : vote 0 1000 yes",
		"hold 2 1 zz=":        "2 : 1 zz= : 0 : : 1 zz=\n outs : vote 2 1 yes",
	} {
		w := holding(t)
		w.Net = wordsOf(text)
		part, outs, _ := strings.Cut(want, "\n")
		goes(t, w, "> hear 0\n"+part+"\n net :\n"+outs)
	}
}

func TestWordsThatTell(t *testing.T) {
	log := "1 : 1000 a=1 b=2; 1001 d=3; 1001+; 1002 h=4; 1002-; 1003-; 1005 h=1"
	for text, want := range map[string]string{
		"tell 1 1000 yes":    log + "; 1000+ : 3 : a=1 b=2 d=3 : 1005 h=1",
		"tell 1 1000":        log + "; 1000- : 3 : d=3 : 1005 h=1",
		"tell 1 1005 yes":    log + "; 1005+ : 3 : d=3 h=1 : 1000 a=1 b=2",
		"tell 1 1005":        log + "; 1005- : 3 : d=3 : 1000 a=1 b=2",
		"tell 1 1001 yes":    "",
		"tell 1 1001":        "",
		"tell 1 1002 yes":    "",
		"tell 1 1002":        "",
		"tell 1 1003 yes":    "",
		"tell 1 1003":        "",
		"tell 1 2000 yes":    "",
		"tell 1 2000":        log + "; 2000- : 3 : d=3 : 1000 a=1 b=2; 1005 h=1",
		"tell 1 7":           log + "; 7- : 3 : d=3 : 1000 a=1 b=2; 1005 h=1",
		"tell 0 1000 yes":    "",
		"tell 0 1000":        "0 : 1000- : 0 : :",
		"tell 2 1000000":     "2 : 1000000- : 0 : :",
		"tell 2 1000000 yes": "",
	} {
		w := holding(t)
		w.Net = wordsOf(text + "; ask 0 1")
		goes(t, w, "> hear 0\n"+want+"\n net : ask 0 1")
	}
}

func TestWordsThatVote(t *testing.T) {
	for text, want := range map[string]string{
		"vote 1 2000 yes": "2000 a=1 c=1 / asks 1; 2001 a=1 c=1 / asks 1; 2002 a=1 / yes 1; 2003 c=1 / no : 1000+ 2002+ 2003- : 1",
		"vote 2 2000 yes": "2000 a=1 c=1 / asks 2; 2001 a=1 c=1 / asks 1; 2002 a=1 / yes 1; 2003 c=1 / no : 1000+ 2002+ 2003- : 1",
		"vote 1 2000":     "2000 a=1 c=1 / no; 2001 a=1 c=1 / asks 1; 2002 a=1 / yes 1; 2003 c=1 / no : 1000+ 2002+ 2003- 2000- : 1",
		"vote 2 2001 yes": "2000 a=1 c=1 / asks; 2001 a=1 c=1 / yes 1 2; 2002 a=1 / yes 1; 2003 c=1 / no : 1000+ 2002+ 2003- 2001+ : 1",
		"vote 1 2001":     "2000 a=1 c=1 / asks; 2001 a=1 c=1 / no 1; 2002 a=1 / yes 1; 2003 c=1 / no : 1000+ 2002+ 2003- 2001- : 1",
		"vote 2 2001":     "2000 a=1 c=1 / asks; 2001 a=1 c=1 / no 1; 2002 a=1 / yes 1; 2003 c=1 / no : 1000+ 2002+ 2003- 2001- : 1",
		"vote 1 2001 yes": "", "vote 0 2000 yes": "", "vote 0 2000": "", "vote 0 2001": "",
		"vote 1 2002 yes": "", "vote 1 2002": "", "vote 2 2003 yes": "", "vote 2 2003": "",
		"vote 1 1000 yes": "", "vote 1 1000": "", "vote 1 1001": "", "vote 1 2004": "", "vote 1 2004 yes": "", "vote 1 7": "", "vote 2 1000000": "",
	} {
		w := worldOf(t, 3, `
			c 2 4 : 2000 a=1 c=1 / asks; 2001 a=1 c=1 / asks 1; 2002 a=1 / yes 1; 2003 c=1 / no : 1000+ 2002+ 2003- : 1
			1 : 2001 a=1 : 1
			net : ask 0 1; `+text+`
			outs : vote 1 2001 yes
			begun : 1000 a=1; 2000 a=1 c=1; 2001 a=1 c=1; 2002 a=1; 2003 c=1`)
		if want != "" {
			want = "c 2 4 : " + want
		}
		goes(t, w, "> hear 1\n"+want+"\n net : ask 0 1")
	}
}

func TestWordsThatAsk(t *testing.T) {
	for text, want := range map[string]string{
		"ask 1 1000": "tell 1 1000 yes", "ask 0 1000": "tell 0 1000 yes", "ask 2 1001": "tell 2 1001", "ask 2 2000": "tell 2 2000 yes", "ask 1 2001": "tell 1 2001",
		"ask 1 1002": "tell 1 1002", "ask 0 1999": "tell 0 1999",
		"ask 1 2002": "", "ask 1 2003": "", "ask 1 2004": "", "ask 1 2005": "", "ask 1 2999": "", "ask 1 3000": "", "ask 1 999": "", "ask 1 1": "", "ask 1 1000000": "",
	} {
		w := worldOf(t, 3, `
			c 2 5 : 2000 c=1 / yes 2; 2001 a=1 c=1 / no 2; 2002 a=1 / yes 1; 2003 c=1 / no; 2004 a=1 / asks : 1000+ 1001- 2000+ 2001- 2002+ 2003- : 4
			1 : 1000 a=1; 1002 b=1 : 1
			net : ask 0 1; `+text+`; vote 1 1
			outs : vote 1 1000 yes
			begun : 1000 a=1; 1001 a=1; 2000 c=1; 2001 a=1 c=1; 2002 a=1; 2003 c=1; 2004 a=1`)
		goes(t, w, "> hear 1\n net : ask 0 1; vote 1 1; "+want)
	}
}

// A word that waits goes on its way when its sender is sure, and not ahead of that; a crash takes it away, whatever is kept.
func TestWordsThatWait(t *testing.T) {
	w := worldOf(t, 3, `
		0 : 7 g=1 : 0
		1 : 7 a=1; 8- : 1
		net : ask 0 1
		outs : vote 1 7 yes; vote 0 7 yes; vote 2 5; vote 1 8; vote 2 6 yes; vote 0 9; vote 1 9 yes`)
	for script, rest := range map[string]string{
		"> sure 1\n 1 : 7 a=1; 8- : 2 : : 7 a=1\n net : ask 0 1; vote 1 7 yes; vote 1 8; vote 1 9 yes\n": "outs : vote 0 7 yes; vote 2 5; vote 2 6 yes; vote 0 9",
		"> sure 0\n 0 : 7 g=1 : 1 : : 7 g=1\n net : ask 0 1; vote 0 7 yes; vote 0 9\n":                   "outs : vote 1 7 yes; vote 2 5; vote 1 8; vote 2 6 yes; vote 1 9 yes",
		"> sure 2\n net : ask 0 1; vote 2 5; vote 2 6 yes\n":                                             "outs : vote 1 7 yes; vote 0 7 yes; vote 1 8; vote 0 9; vote 1 9 yes",
		"> crash 1 0\n 1 : 7 a=1 : 1 : : 7 a=1\n":                                                        "outs : vote 0 7 yes; vote 2 5; vote 2 6 yes; vote 0 9",
		"> crash 1 1\n 1 : 7 a=1; 8- : 2 : : 7 a=1\n":                                                    "outs : vote 0 7 yes; vote 2 5; vote 2 6 yes; vote 0 9",
		"> crash 0 0\n 0 : : 0 : :\n":                                                                    "outs : vote 1 7 yes; vote 2 5; vote 1 8; vote 2 6 yes; vote 1 9 yes",
		"> crash 0 9\n 0 : 7 g=1 : 1 : : 7 g=1\n":                                                        "outs : vote 1 7 yes; vote 2 5; vote 1 8; vote 2 6 yes; vote 1 9 yes",
		"> crash 2 0\n": "outs : vote 1 7 yes; vote 0 7 yes; vote 1 8; vote 0 9; vote 1 9 yes",
	} {
		goes(t, w, script+rest)
	}
	for _, text := range []string{"begin a=1", "hear 0", "drop 0", "double 0", "decide", "tell", "ask 0", "ask 1", "ask 2", "fall 0", "fall 5"} {
		if next := does(t, w, eventOf(text), true); !sameWords(next.Outs, w.Outs) {
			t.Errorf("%s: %q wait", text, wordsTold(next.Outs))
		}
	}
	w.Outs = wordsOf("hold 1 7 a=1; ask 1 8; tell 1 9 yes; hold 0 7 b=1; vote 1 10")
	goes(t, w, "> sure 1\n 1 : 7 a=1; 8- : 2 : : 7 a=1\n net : ask 0 1; hold 1 7 a=1; ask 1 8; tell 1 9 yes; vote 1 10\n outs : hold 0 7 b=1")
	goes(t, w, "> crash 1\n 1 : 7 a=1 : 1 : : 7 a=1\n outs : hold 0 7 b=1")
}

// A vote whose sender crashes ahead of being sure is lost with what it says; one whose sender was sure stays true behind the crash.
func TestSendersThatCrash(t *testing.T) {
	begun := `
		> begin a=1
		c 1 1 : 1000 a=1 / asks : : 0
		net : hold 1 1000 a=1
		begun : 1000 a=1
		> hear 0
		1 : 1000 a=1 : 0 : : 1000 a=1
		net :
		outs : vote 1 1000 yes`
	goes(t, impl.WorldNew(3), begun+`
		> crash 1 0
		1 : : 0 : :
		outs :
		> sure 1
		> tell
		net : hold 1 1000 a=1
		> hear 0
		1 : 1000 a=1 : 0 : : 1000 a=1
		net :
		outs : vote 1 1000 yes`)
	goes(t, impl.WorldNew(3), begun+`
		> crash 1 1
		1 : 1000 a=1 : 1 : : 1000 a=1
		outs :
		> sure 1
		> tell
		net : hold 1 1000 a=1
		> hear 0
		net :
		outs : vote 1 1000 yes
		> sure 1
		net : vote 1 1000 yes
		outs :`)
	goes(t, impl.WorldNew(3), begun+`
		> sure 1
		1 : 1000 a=1 : 1 : : 1000 a=1
		net : vote 1 1000 yes
		outs :
		> crash 1 0
		> hear 0
		c 1 1 : 1000 a=1 / yes 1 : 1000+ : 0
		net :
		> crash 1 -1
		> crash 0 5
		> crash 2 5`)
}

func TestWordsAreDroppedAndDoubled(t *testing.T) {
	w := worldOf(t, 3, `
		c 1 1 : 1000 a=1 c=1 / asks : : 0
		net : hold 1 1000 a=1; hold 2 1000 c=1; vote 0 7 yes; tell 1 8; ask 2 9
		begun : 1000 a=1 c=1`)
	goes(t, w, `
		> double 0
		net : hold 1 1000 a=1; hold 2 1000 c=1; vote 0 7 yes; tell 1 8; ask 2 9; hold 1 1000 a=1
		> double 5
		net : hold 1 1000 a=1; hold 2 1000 c=1; vote 0 7 yes; tell 1 8; ask 2 9; hold 1 1000 a=1; hold 1 1000 a=1
		> double 2
		net : hold 1 1000 a=1; hold 2 1000 c=1; vote 0 7 yes; tell 1 8; ask 2 9; hold 1 1000 a=1; hold 1 1000 a=1; vote 0 7 yes
		> drop 0
		net : hold 2 1000 c=1; vote 0 7 yes; tell 1 8; ask 2 9; hold 1 1000 a=1; hold 1 1000 a=1; vote 0 7 yes
		> drop 6
		net : hold 2 1000 c=1; vote 0 7 yes; tell 1 8; ask 2 9; hold 1 1000 a=1; hold 1 1000 a=1
		> drop 2
		net : hold 2 1000 c=1; vote 0 7 yes; ask 2 9; hold 1 1000 a=1; hold 1 1000 a=1
		! drop 5
		! double 5
		! hear 5
		! drop -1
		> hear 4
		1 : 1000 a=1 : 0 : : 1000 a=1
		net : hold 2 1000 c=1; vote 0 7 yes; ask 2 9; hold 1 1000 a=1
		outs : vote 1 1000 yes
		> hear 3
		net : hold 2 1000 c=1; vote 0 7 yes; ask 2 9
		outs : vote 1 1000 yes; vote 1 1000 yes`)
}

// In doubt a shard asks: what is sure is told, and of an earlier life what is not is a no.
func TestShardsInDoubtAsk(t *testing.T) {
	w := worldOf(t, 3, `
		c 1 3 : 1000 a=1 c=1 / yes 1 2; 1001 b=1 c=2 / asks 1; 1002 d=1 / yes 1 : 1000+ 1002+ : 1
		1 : 1000 a=1; 1001 b=1; 1002 d=1 : 3
		2 : 1000 c=1 : 1
		begun : 1000 a=1 c=1; 1001 b=1 c=2; 1002 d=1`)
	goes(t, w, `
		> ask 0
		> ask 1
		net : ask 1 1000; ask 1 1001; ask 1 1002
		> ask 2
		net : ask 1 1000; ask 1 1001; ask 1 1002; ask 2 1000
		> hear 1
		net : ask 1 1000; ask 1 1002; ask 2 1000
		> hear 1
		net : ask 1 1000; ask 2 1000
		> hear 1
		net : ask 1 1000; tell 2 1000 yes
		> hear 1
		2 : 1000 c=1; 1000+ : 1 : c=1 :
		net : ask 1 1000
		> fall 0
		c 2 0 : : 1000+ : 1
		> tell
		> ask 1
		net : ask 1 1000; ask 1 1000; ask 1 1001; ask 1 1002
		> hear 0
		net : ask 1 1000; ask 1 1001; ask 1 1002; tell 1 1000 yes
		> hear 1
		net : ask 1 1000; ask 1 1002; tell 1 1000 yes; tell 1 1001
		> hear 1
		net : ask 1 1000; tell 1 1000 yes; tell 1 1001; tell 1 1002
		> hear 2
		1 : 1000 a=1; 1001 b=1; 1002 d=1; 1001- : 3 : : 1000 a=1; 1002 d=1
		net : ask 1 1000; tell 1 1000 yes; tell 1 1002
		> hear 2
		1 : 1000 a=1; 1001 b=1; 1002 d=1; 1001-; 1002- : 3 : : 1000 a=1
		net : ask 1 1000; tell 1 1000 yes
		> hear 1
		1 : 1000 a=1; 1001 b=1; 1002 d=1; 1001-; 1002-; 1000+ : 3 : a=1 :
		net : ask 1 1000
		> begin b=3
		c 2 1 : 2000 b=3 / asks : 1000+ : 1
		net : ask 1 1000; hold 1 2000 b=3
		begun : 1000 a=1 c=1; 1001 b=1 c=2; 1002 d=1; 2000 b=3`)
	fallen := goes(t, w, `
		> fall 1
		c 2 0 : : 1000+ 1002+ : 2`)
	goes(t, fallen, `
		> ask 1
		net : ask 1 1000; ask 1 1001; ask 1 1002
		> hear 2
		net : ask 1 1000; ask 1 1001; tell 1 1002 yes`)
}

// busyWorld is one in which each kind of event has something to do at place 0.
func busyWorld(t *testing.T) impl.World {
	t.Helper()
	return worldOf(t, 3, `
		c 2 5 : 2000 a=1 c=1 / asks 1; 2001 g=1 / yes 0; 2003 e=1 / no; 2004 b=2 h=3 / asks : 1000+ 1001- 2001+ 2003- 2002+ : 3
		0 : 1000 g=5; 1000+; 2001 g=1; 7 k=1 : 2
		1 : 1001-; 2000 a=1; 2004 b=2 h=3 : 2
		2 : 1000 c=5; 1000+; 2000 c=1 : 1
		net : hold 2 2000 c=1; vote 2 2000 yes; tell 0 2001 yes; ask 2 1000; hold 1 2004 b=2 h=3; ask 0 2001; hold 0 8 m=1 mm=2
		outs : vote 0 2001 yes; vote 1 2000 yes; hold 2 9 f=1; vote 2 2000 yes; vote 1 2004; vote 0 7 yes
		begun : 1000 c=5 g=5; 1001 a=1; 2003 e=1; 2000 a=1 c=1; 2001 g=1; 2002 h=1; 2004 b=2 h=3`)
}

// asking gives n words that ask for transactions of which nothing is known, no two alike.
func asking(n int) []impl.Word {
	list := []impl.Word{}
	for i := range n {
		list = append(list, impl.Word{Kind: impl.WordAsk, Tx: 1 + i})
	}
	return list
}

func TestPlacesOfEvents(t *testing.T) {
	for _, n := range []int{1, 3, 8} {
		for _, count := range []int{0, 1, 2, 7, mostNet - 1, mostNet} {
			w := impl.WorldNew(n)
			w.Net = asking(count)
			for _, at := range []int{math.MinInt, -400, -1, 0, 1, n - 1, n, n + 1, 8, count - 1, count, count + 1, 399, 400, 401, 1 << 32, math.MaxInt} {
				inNet, inShards := at >= 0 && at < count, at >= 0 && at < n
				for _, kind := range []int{impl.EvHear, impl.EvDrop} {
					next := does(t, w, impl.Event{Kind: kind, At: at}, inNet)
					if inNet && (len(next.Net) != count-1 || slices.ContainsFunc(next.Net, func(x impl.Word) bool { return x.Tx == at+1 })) {
						t.Errorf("%d of %d: %q", at, count, wordsTold(next.Net))
					}
				}
				next := does(t, w, impl.Event{Kind: impl.EvDouble, At: at}, inNet)
				if inNet && count < mostNet && (len(next.Net) != count+1 || next.Net[count].Tx != at+1) {
					t.Errorf("%d of %d, doubled: %q", at, count, wordsTold(next.Net))
				}
				for _, kind := range []int{impl.EvSure, impl.EvAsk, impl.EvCrash} {
					does(t, w, impl.Event{Kind: kind, At: at}, inShards)
				}
			}
		}
	}
}

// sends asks that an event puts these words behind Net, as many as have room.
func sends(t *testing.T, w impl.World, e impl.Event, words []impl.Word) impl.World {
	t.Helper()
	next := does(t, w, e, true)
	sent := min(len(words), mostNet-len(w.Net))
	if len(next.Net) != len(w.Net)+sent || !sameWords(next.Net, append(copyWords(w.Net), words[:sent]...)) {
		t.Errorf("%v beside %d: %d are on their way", e, len(w.Net), len(next.Net))
	}
	isWorld(t, "on their way", true, next)
	return next
}

func TestRoomOnTheWay(t *testing.T) {
	for _, count := range []int{0, 1, mostNet - 6, mostNet - 5, mostNet - 4, mostNet - 3, mostNet - 2, mostNet - 1, mostNet} {
		w := busyWorld(t)
		w.Net = asking(count)
		next := sends(t, w, eventOf("begin a=7 c=7 g=7"), wordsOf("hold 0 2005 g=7; hold 1 2005 a=7; hold 2 2005 c=7"))
		if len(next.Begun) != 8 || len(next.C.Jobs) != 5 {
			t.Errorf("beside %d it is not begun", count)
		}
		sends(t, w, eventOf("tell"), wordsOf("hold 2 2000 c=1; tell 0 2001 yes; hold 1 2004 b=2 h=3"))
		sends(t, does(t, w, eventOf("decide"), true), eventOf("tell"), wordsOf("hold 2 2000 c=1; tell 0 2001 yes; tell 2 2003; hold 1 2004 b=2 h=3"))
		sends(t, w, eventOf("ask 0"), wordsOf("ask 0 2001; ask 0 7"))
		sends(t, w, eventOf("ask 1"), wordsOf("ask 1 2000; ask 1 2004"))
		w.Outs = append(wordsOf("vote 2 9; vote 1 1; vote 1 2 yes; vote 1 3; vote 0 9 yes"), wordsOf("hold 1 4 a=1; vote 1 5; vote 2 10")...)
		next = sends(t, w, eventOf("sure 1"), wordsOf("vote 1 1; vote 1 2 yes; vote 1 3; hold 1 4 a=1; vote 1 5"))
		if !sameWords(next.Outs, wordsOf("vote 2 9; vote 0 9 yes; vote 2 10")) || next.Shards[1].Sure != 3 {
			t.Errorf("beside %d these wait: %q", count, wordsTold(next.Outs))
		}
		if count > 0 {
			sends(t, w, eventOf("double 0"), w.Net[:1])
			sends(t, w, impl.Event{Kind: impl.EvDouble, At: count - 1}, w.Net[count-1:])
		}
	}
}

// What is answered to a word has the room that this word had.
func TestRoomOfTheWordThatIsHeard(t *testing.T) {
	for _, count := range []int{1, 2, mostNet - 1, mostNet} {
		for _, at := range []int{0, count / 2, count - 1} {
			w := busyWorld(t)
			w.Net = asking(count)
			w.Net[at] = wordOf("ask 2 1000")
			next := does(t, w, impl.Event{Kind: impl.EvHear, At: at}, true)
			want := append(slices.Delete(copyWords(w.Net), at, at+1), wordOf("tell 2 1000 yes"))
			if len(next.Net) != count || !sameWords(next.Net, want) {
				t.Errorf("place %d of %d: %q", at, count, wordsTold(next.Net))
			}
		}
	}
}

func TestRoomToWait(t *testing.T) {
	for _, count := range []int{0, 1, mostNet - 2, mostNet - 1, mostNet} {
		w := busyWorld(t)
		w.Outs = asking(count)
		for text, vote := range map[string]string{"hold 2 2000 c=1": "vote 2 2000 yes", "hold 0 5000 k=1": "vote 0 5000", "hold 0 1000 k=1": "vote 0 1000 yes", "hold 1 1001 a=1": "vote 1 1001", "hold 1 9 d=1": "vote 1 9 yes"} {
			w.Net = wordsOf(text)
			next := does(t, w, eventOf("hear 0"), true)
			want := copyWords(w.Outs)
			if count < mostNet {
				want = append(want, wordOf(vote))
			}
			if !sameWords(next.Outs, want) || len(next.Net) != 0 {
				t.Errorf("%s beside %d: %d wait", text, count, len(next.Outs))
			}
			if held := slices.ContainsFunc(next.Shards[1].Held, func(r impl.Rec) bool { return r.Tx == 9 }); held != (text == "hold 1 9 d=1") {
				t.Errorf("%s beside %d: held %v", text, count, held)
			}
			isWorld(t, text, true, next)
		}
		w.Net = asking(mostNet)
		next := does(t, w, eventOf("sure 0"), true)
		if len(next.Outs) != 0 || !sameWords(next.Net, w.Net) {
			t.Errorf("%d are left, %d on their way", len(next.Outs), len(next.Net))
		}
	}
}

// manyBegun is a world of the third life with n orders that were begun in those ahead.
func manyBegun(n int) impl.World {
	w := impl.WorldNew(3)
	w.C.Life = 3
	for i := range n {
		w.Begun = append(w.Begun, impl.Order{Tx: 1000 + i, Ops: opsOf("a=1")})
	}
	return w
}

func TestHowManyMayBeBegun(t *testing.T) {
	for _, count := range []int{0, 1, mostBegun - 2, mostBegun - 1, mostBegun, mostBegun + 1, mostBegun + 500} {
		w := manyBegun(count)
		isWorld(t, "begun", count <= mostBegun, w)
		next := does(t, w, eventOf("begin a=1 c=2"), count < mostBegun)
		if count < mostBegun && (len(next.Begun) != count+1 || !sameOrder(next.Begun[count], begunOf("3000 a=1 c=2")[0])) {
			t.Errorf("beside %d: %v", count, next.Begun[count:])
		}
		does(t, next, eventOf("begin a=1"), count < mostBegun-1)
		does(t, w, eventOf("begin"), false)
		w.C.Log = choosing(count)
		isWorld(t, "chosen", count <= mostBegun, w)
		does(t, w, eventOf("begin a=1 c=2"), count < mostBegun)
		does(t, w, eventOf("decide"), count <= mostBegun)
	}
	w := manyBegun(mostBegun - 1)
	w.C.Log = choosing(mostBegun - 1)
	w = does(t, w, eventOf("begin a=1"), true)
	for _, text := range []string{"hear 0", "sure 1", "hear 0"} {
		w = does(t, w, eventOf(text), true)
		isWorld(t, text, true, w)
	}
	if len(w.C.Log) != 1000 || w.C.Log[999] != (impl.Choice{Tx: 3000, Yes: true}) {
		t.Errorf("the last choice is not there: %v", w.C.Jobs)
	}
	does(t, w, eventOf("begin a=1"), false)
}

func TestOrdersThatDoNotBegin(t *testing.T) {
	for _, w := range []impl.World{impl.WorldNew(1), impl.WorldNew(8), busyWorld(t)} {
		for _, text := range wrongOrders {
			does(t, w, impl.Event{Kind: impl.EvBegin, Ops: opsOf(text)}, false)
		}
		for _, text := range rightOrders {
			next := does(t, w, impl.Event{Kind: impl.EvBegin, Ops: opsOf(text)}, true)
			isWorld(t, text, true, next)
		}
		for n := range 12 {
			does(t, w, impl.Event{Kind: impl.EvBegin, Ops: manyOps(n)}, n >= 1 && n <= 8)
		}
	}
	for _, life := range []int{1, 2, 900} {
		for _, number := range []int{0, 1, 997, 998, mostNext} {
			w := impl.WorldNew(3)
			w.C.Life, w.C.Next = life, number
			next := does(t, w, eventOf("begin a=1"), number < mostNext)
			if number < mostNext && (next.Begun[0].Tx != life*1000+number || next.C.Next != number+1) {
				t.Errorf("life %d, next %d: %v", life, number, next.Begun)
			}
			isWorld(t, "a number", true, next)
			does(t, next, eventOf("begin a=1"), number < mostNext-1)
		}
	}
}

func TestLivesOfWorlds(t *testing.T) {
	for _, life := range []int{1, 2, 898, 899, mostLife} {
		w := busyWorld(t)
		w.C.Life, w.C.Next, w.C.Jobs = life, 999, nil
		w.C.Log, w.C.Sure, w.Begun = logOf("1000+ 1001-"), 1, begunOf("1000 c=5 g=5; 1001 a=1")
		for _, keep := range []int{math.MinInt, -1, 0, 1, 2, math.MaxInt} {
			next := does(t, w, impl.Event{Kind: impl.EvFall, N: keep}, life < mostLife)
			left := 1
			if keep > 0 {
				left = 2
			}
			if life < mostLife && (next.C.Life != life+1 || next.C.Next != 0 || next.C.Sure != left || len(next.C.Log) != left) {
				t.Errorf("life %d, keeping %d: %v", life, keep, next.C)
			}
			if !sameWords(next.Net, w.Net) || !sameWords(next.Outs, w.Outs) || len(next.Begun) != 2 {
				t.Errorf("life %d, keeping %d: words or orders are lost", life, keep)
			}
			isWorld(t, "fallen", true, next)
		}
	}
}

func TestWhatCrashesKeep(t *testing.T) {
	log, choices := "7 a=1; 7+; 8 b=2; 9-; 8+", "1000+ 1001- 1002+ 1003- 1004+"
	for sure := range 6 {
		w := impl.WorldNew(3)
		w.Shards[1] = shardBy(t, 1, recsOf(log), sure)
		w.C = coordOf(3, 1, 5, "", choices, sure)
		w.Begun = begunOf("1000 a=1; 1001 a=1; 1002 a=1; 1003 a=1; 1004 a=1")
		w.Outs = wordsOf("vote 0 7; vote 1 8 yes; vote 2 9; vote 1 9")
		for _, keep := range []int{math.MinInt, -5, -1, 0, 1, 2, 3, 4, 5, 6, 1000, math.MaxInt - 1, math.MaxInt} {
			left := sure
			for i := 0; i < keep && left < 5; i++ {
				left++
			}
			next := does(t, w, impl.Event{Kind: impl.EvCrash, At: 1, N: keep}, true)
			if !sameShard(next.Shards[1], shardBy(t, 1, recsOf(log)[:left], left)) || !sameWords(next.Outs, wordsOf("vote 0 7; vote 2 9")) {
				t.Errorf("%d are sure, %d kept: %q", sure, keep, worldTold(next))
			}
			isWorld(t, "crashed", true, next)
			next = does(t, w, impl.Event{Kind: impl.EvFall, N: keep}, true)
			if !sameCoord(next.C, impl.Coord{N: 3, Life: 2, Log: logOf(choices)[:left], Sure: left}) {
				t.Errorf("%d are sure, %d kept: %v", sure, keep, next.C)
			}
			isWorld(t, "fallen", true, next)
		}
	}
}

// What a Kind does not name may be anything: it is not looked at.
func TestFieldsThatAKindDoesNotName(t *testing.T) {
	w := busyWorld(t)
	for kind := impl.EvBegin; kind <= impl.EvFall; kind++ {
		named := impl.Event{Kind: kind}
		if kind == impl.EvBegin {
			named.Ops = opsOf("a=5 c=5")
		}
		want := does(t, w, named, true)
		for _, n := range []int{math.MinInt, -1, 1, 2, 99, math.MaxInt} {
			for _, text := range []string{"", "x=1", "b=1 a=1", "A=1"} {
				e := impl.Event{Kind: kind, At: n, N: n, Ops: opsOf(text)}
				switch kind {
				case impl.EvBegin:
					e.Ops = named.Ops
				case impl.EvHear, impl.EvDrop, impl.EvDouble, impl.EvSure, impl.EvAsk:
					e.At = 0
				case impl.EvCrash:
					e.At, e.N = 0, 0
				case impl.EvFall:
					e.N = 0
				}
				if next := does(t, w, e, true); !sameWorld(next, want) {
					t.Errorf("%s with %v is another one", eventNames[kind], e)
				}
			}
		}
	}
}

// wrongWorlds: each not as the chapter tells, by one thing alone.
func wrongWorlds(t *testing.T) map[string]impl.World {
	list := map[string]impl.World{"zero": {}}
	bend := func(what string, change func(w *impl.World)) {
		w := busyWorld(t)
		change(&w)
		list[what] = w
	}
	bend("no C", func(w *impl.World) { w.C = impl.Coord{} })
	for _, n := range []int{1, 2, 4, 8, 9, 0, -1} {
		bend(fmt.Sprint("N ", n), func(w *impl.World) { w.C.N = n })
	}
	bend("no Shards", func(w *impl.World) { w.Shards = nil })
	bend("a shard too few", func(w *impl.World) { w.Shards = w.Shards[:2] })
	bend("a shard too few at the beginning", func(w *impl.World) { w.Shards = w.Shards[1:] })
	bend("a shard too many", func(w *impl.World) { w.Shards = append(w.Shards, impl.ShardNew(3)) })
	bend("a shard twice", func(w *impl.World) { w.Shards[1] = w.Shards[0] })
	bend("shards in another order", func(w *impl.World) { slices.Reverse(w.Shards) })
	for _, id := range []int{-1, 0, 2, 3, 8} {
		bend(fmt.Sprint("Id ", id), func(w *impl.World) { w.Shards[1].Id = id })
	}
	for what, s := range wrongShards(t) {
		w := impl.WorldNew(8)
		w.Shards[max(0, min(s.Id, 7))] = s
		list["shard: "+what] = w
	}
	for what, c := range wrongCoords() {
		w := impl.WorldNew(8)
		w.C = c
		for tx := range 3000 {
			if at := slices.IndexFunc(c.Jobs, func(j impl.Job) bool { return j.Tx == tx }); at >= 0 {
				w.Begun = append(w.Begun, impl.Order{Tx: tx, Ops: c.Jobs[at].Ops})
			} else if choiceByHand(c, tx) >= 0 {
				w.Begun = append(w.Begun, impl.Order{Tx: tx, Ops: opsOf("a=1")})
			}
		}
		list["C: "+what] = w
	}
	wrongWords(bend)
	wrongBegun(bend)
	return list
}

func wrongWords(bend func(what string, change func(w *impl.World))) {
	words := map[string]impl.Word{"zero": {}, "Kind 5": {Kind: 5, Tx: 7}, "Kind -1": {Kind: -1, Tx: 7}}
	for _, text := range []string{
		"hold -1 7 a=1", "hold 3 7 a=1", "hold 7 7 a=1", "hold 8 7 a=1", "vote 3 7 yes", "vote -1 7", "tell 3 7", "tell 4 7 yes", "ask 3 7", "ask -1 7", "ask 8 7",
		"hold 0 0 a=1", "hold 0 1000001 a=1", "vote 0 0", "tell 0 -1 yes", "ask 0 1000001",
		"hold 0 7", "hold 0 7 yes", "hold 0 7 b=1 a=1", "hold 0 7 4:a=1", "vote 0 7 a=1", "tell 0 7 a=1", "ask 0 7 a=1", "ask 0 7 yes",
	} {
		words[text] = wordOf(text)
	}
	for what, word := range words {
		bend("in Net "+what, func(w *impl.World) { w.Net[3] = word })
		bend("behind Net "+what, func(w *impl.World) { w.Net = append(w.Net, word) })
		bend("in Outs "+what, func(w *impl.World) { w.Outs[2] = word })
		bend("alone in Outs "+what, func(w *impl.World) { w.Outs = []impl.Word{word} })
	}
	bend("one word too many in Net", func(w *impl.World) { w.Net = asking(mostNet + 1) })
	bend("one word too many in Outs", func(w *impl.World) { w.Outs = asking(mostNet + 1) })
	bend("far too many words", func(w *impl.World) { w.Net = asking(5 * mostNet) })
}

func wrongBegun(bend func(what string, change func(w *impl.World))) {
	for at := range 7 {
		bend(fmt.Sprint("begun without ", at), func(w *impl.World) { w.Begun = slices.Delete(w.Begun, at, at+1) })
		bend(fmt.Sprint("begun twice ", at), func(w *impl.World) { w.Begun = append(w.Begun, w.Begun[at]) })
		bend(fmt.Sprint("begun twice, otherwise ", at), func(w *impl.World) {
			w.Begun = slices.Insert(w.Begun, 0, impl.Order{Tx: w.Begun[at].Tx, Ops: opsOf("z=9")})
		})
	}
	bend("nothing begun", func(w *impl.World) { w.Begun = nil })
	for _, tx := range []int{math.MinInt, -1000, -1, 0, 1, 999, 2005, 2006, 2999, 3000, 1000000, 1001 + 1<<32, math.MaxInt} {
		bend(fmt.Sprint("begun ", tx), func(w *impl.World) { w.Begun = append(w.Begun, impl.Order{Tx: tx, Ops: opsOf("a=1")}) })
	}
	for i, text := range wrongOrders {
		bend(fmt.Sprint("begun with ", text), func(w *impl.World) { w.Begun[[]int{0, 1, 5}[i%3]].Ops = opsOf(text) })
	}
	for _, text := range []string{"a=1", "c=1", "a=1 c=2", "a=1 c=1 d=1", "-a c=1", "a=1 c?1", "aa=1 c=1", "a=1 d=1"} {
		bend("a job of other orders than "+text, func(w *impl.World) { w.Begun[3].Ops = opsOf(text) })
	}
	bend("a job that was decided has other orders", func(w *impl.World) { w.Begun[4].Ops = opsOf("g=2") })
	bend("a job that has less orders", func(w *impl.World) { w.C.Jobs[3].Ops, w.C.Jobs[3].Yes = opsOf("b=2"), nil })
	bend("one order too many", func(w *impl.World) {
		for i := len(w.Begun); i <= mostBegun; i++ {
			w.Begun = append(w.Begun, impl.Order{Tx: 1002 + i - 7, Ops: opsOf("a=1")})
		}
	})
}

func TestWrongWorlds(t *testing.T) {
	for what, w := range wrongWorlds(t) {
		if impl.WorldOk(w) || worldByHand(w) {
			t.Errorf("%s: WorldOk is %v, by hand %v", what, impl.WorldOk(w), worldByHand(w))
		}
		for kind := 0; kind <= 11; kind++ {
			does(t, w, impl.Event{Kind: kind, Ops: opsOf("a=1")}, false)
		}
		if next := impl.Play(w, eventsOf("begin a=1; hear 0; decide; sure 0; tell; ask 0; crash 0; fall")); !sameWorld(next, w) {
			t.Errorf("%s: it is played", what)
		}
	}
}

func TestRightWorlds(t *testing.T) {
	right := func(what string, change func(w *impl.World)) {
		t.Helper()
		w := busyWorld(t)
		change(&w)
		isWorld(t, what, true, w)
		for kind := impl.EvBegin; kind <= impl.EvFall; kind++ {
			next, _ := impl.Do(w, impl.Event{Kind: kind, Ops: opsOf("a=1")})
			isWorld(t, what+", "+eventNames[kind], true, next)
		}
	}
	right("as it is", func(w *impl.World) {})
	right("as many words as may be", func(w *impl.World) { w.Net, w.Outs = asking(mostNet), asking(mostNet) })
	right("no words", func(w *impl.World) { w.Net, w.Outs = nil, []impl.Word{} })
	right("words of the last shard", func(w *impl.World) { w.Net, w.Outs = wordsOf("ask 2 1; ask 2 1000000"), wordsOf("vote 2 9") })
	right("words that nobody said", func(w *impl.World) {
		w.Net = wordsOf("tell 0 2000 yes; tell 1 2004 yes; vote 1 2004 yes; hold 0 2000 z=9")
	})
	right("orders in another order", func(w *impl.World) { slices.Reverse(w.Begun) })
	right("an order that is in no job", func(w *impl.World) { w.Begun = slices.Delete(w.Begun, 5, 6); w.C.Log = w.C.Log[:4] })
	for _, tx := range []int{1002, 1999} {
		right("begun "+strconv.Itoa(tx), func(w *impl.World) { w.Begun = append(w.Begun, impl.Order{Tx: tx, Ops: manyOps(8)}) })
	}
	right("the last number", func(w *impl.World) { w.C.Next = 999; w.Begun = append(w.Begun, impl.Order{Tx: 2998, Ops: manyOps(1)}) })
	right("a choice of another order", func(w *impl.World) {
		w.Begun[0].Ops, w.Begun[1].Ops, w.Begun[5].Ops = manyOps(8), manyOps(1), manyOps(3)
	})
	right("as many orders as may be", func(w *impl.World) {
		for i := len(w.Begun); i < mostBegun; i++ {
			w.Begun = append(w.Begun, impl.Order{Tx: 1002 + i - 7, Ops: opsOf("a=1")})
		}
	})
	right("shards that nobody told", func(w *impl.World) { w.Shards[2] = shardBy(t, 2, recsOf("9 a=1; 9+; 2002 g=1; 1000-"), 4) })
	right("full shards", func(w *impl.World) {
		w.Shards[0], w.Shards[1] = shardBy(t, 0, goneRecs(300), 300), shardBy(t, 1, filling(60), 0)
	})
}

func TestPlaying(t *testing.T) {
	for _, w := range []impl.World{impl.WorldNew(3), busyWorld(t)} {
		list := eventsOf("begin a=7 c=7; hear 0; hear 9; hear 0; double 0; sure 1; begin b=1 a=1; tell; decide; hear 0; hear 0; sure 0; hear 0; ask 1; tell; hear 1; hear 0; crash 1 1; sure 9; fall 1; ask 1; hear 0; hear 0; begin g=1; tell; drop 0; hear 0; sure 0; hear 0; decide; tell; hear 0")
		want, done := w, 0
		for i, e := range list {
			next, ok := impl.Do(want, e)
			want = next
			if ok {
				done++
			}
			if got := impl.Play(w, list[:i+1]); !sameWorld(got, want) {
				t.Errorf("behind %d: %q, not %q", i+1, worldTold(got), worldTold(want))
			}
			isWorld(t, "played", true, want)
		}
		if done < 20 || done == len(list) || !sameWorld(impl.Play(w, list), playByHand(w, list)) {
			t.Errorf("%d are done: %q", done, worldTold(want))
		}
		if !sameWorld(impl.Play(w, nil), w) {
			t.Error("nothing is played, and it is another one")
		}
	}
}

func TestHowManyEventsArePlayed(t *testing.T) {
	for _, count := range []int{0, 1, mostPlay - 1, mostPlay, mostPlay + 1, 2 * mostPlay, 5000} {
		list := slices.Repeat(eventsOf("begin a=1"), count)
		w := impl.Play(impl.WorldNew(2), list)
		if len(w.Begun) != min(count, mostPlay) || !sameWorld(w, playByHand(impl.WorldNew(2), list)) {
			t.Errorf("of %d: %d are begun", count, len(w.Begun))
		}
		isWorld(t, "played", true, w)
	}
	for refused := range mostPlay + 3 {
		list := append(slices.Repeat([]impl.Event{{Kind: 11}}, refused), slices.Repeat(eventsOf("begin a=1"), mostPlay)...)
		if w := impl.Play(impl.WorldNew(2), list); len(w.Begun) != max(0, mostPlay-refused) {
			t.Errorf("behind %d that are refused %d are begun", refused, len(w.Begun))
		}
	}
	list := append(slices.Repeat(eventsOf("decide"), mostPlay-1), eventsOf("begin a=1; begin b=1; begin c=1")...)
	if w := impl.Play(impl.WorldNew(2), list); len(w.Begun) != 1 || !slices.Equal(w.Begun[0].Ops, opsOf("a=1")) {
		t.Errorf("the last one is another: %v", w.Begun)
	}
}

// A world made by hand may come to a shard of more than MaxPairs pairs. It is not right then: Do refuses it, and Play, which asked at the beginning, goes on.
func TestPlayAsksAtTheBeginningAlone(t *testing.T) {
	w := impl.WorldNew(3)
	w.Shards[1] = shardBy(t, 1, append(filling(60), recsOf("7 a=1 b=2; 8 d=1")...), 2)
	w.Net = wordsOf("tell 1 7 yes; hold 1 9 h=1; hold 2 9 c=1; tell 1 8")
	isWorld(t, "at the beginning", true, w)
	over := does(t, w, eventOf("hear 0"), true)
	isWorld(t, "with too many pairs", false, over)
	if len(over.Shards[1].Map) != 62 {
		t.Errorf("it is not done: %v", over.Shards[1])
	}
	for kind := impl.EvBegin; kind <= impl.EvFall; kind++ {
		does(t, over, impl.Event{Kind: kind, Ops: opsOf("a=1")}, false)
	}
	list := eventsOf("hear 0; hear 0; hear 0; hear 0; begin a=2; ask 1; sure 2; decide; hear 0; sure 1; double 0; drop 0; crash 1 0; fall 0; begin c=1; tell")
	for i := range list {
		if got, want := impl.Play(w, list[:i+1]), playByHand(w, list[:i+1]); !sameWorld(got, want) {
			t.Fatalf("behind %v: %q, not %q", list[i], worldTold(got), worldTold(want))
		}
	}
	next := impl.Play(w, list)
	if !sameShard(next.Shards[1], over.Shards[1]) || len(next.Begun) != 2 || next.C.Life != 2 || len(next.Shards[2].Log) != 1 || len(next.Outs) != 0 {
		t.Errorf("it is not played on: %q", worldTold(next))
	}
	heard := impl.Play(w, list[:4])
	if !sameWords(heard.Outs, wordsOf("vote 2 9 yes")) || len(heard.Net) != 0 {
		t.Errorf("a shard that is not right votes: %q", wordsTold(heard.Outs))
	}
	if asked := impl.Play(w, list[:6]); !sameWords(asked.Net, wordsOf("hold 1 1000 a=2; ask 1 8")) {
		t.Errorf("what is held is not asked for: %q", wordsTold(asked.Net))
	}
}

// eventBy draws an event: the greater hearing is, the more words are heard beside all else.
func eventBy(from *rand.Rand, w impl.World, hearing int) impl.Event {
	orders := []string{"a=1", "a=2 b=1", "-a c=1", "a? g=1", "a?1 b=3", "c=1 e=2 g=3", "-c", "d=1 h=2", "a=1 b=1 c=1 d=1 e=1 f=1 g=1 h=1", "i=1 k=2 m=", "-g k?2", "b=1 a=1", ""}
	e := impl.Event{N: from.Intn(6) - 2, Ops: opsOf(orders[from.Intn(len(orders))])}
	switch n := from.Intn(18 + hearing); {
	case n < 3:
		e.Kind = impl.EvBegin
	case n < 13:
		e.Kind = []int{impl.EvDrop, impl.EvDouble, impl.EvSure, impl.EvSure, impl.EvSure, impl.EvDecide, impl.EvDecide, impl.EvTell, impl.EvAsk, impl.EvCrash}[n-3]
	case n == 13:
		e.Kind = []int{impl.EvFall, 0, 11, impl.EvTell}[from.Intn(4)]
	default:
		e.Kind = impl.EvHear
	}
	e.At = from.Intn(w.C.N+2) - 1
	if e.Kind == impl.EvHear || e.Kind == impl.EvDrop || e.Kind == impl.EvDouble {
		e.At = from.Intn(len(w.Net) + 1)
	}
	return e
}

// What becomes of worlds by whatever events: each is right, and is what the chapter's words make of the one ahead.
func TestWorldsGoByTheWords(t *testing.T) {
	from := rand.New(rand.NewSource(12))
	done, refused, heard, ends := [12]int{}, [12]int{}, [5]int{}, map[string]int{}
	for run := range 100 {
		w := impl.WorldNew(1 + run%8)
		list := []impl.Event{}
		for range mostPlay {
			e := eventBy(from, w, 6+run%20)
			_, ok := doByHand(w, e)
			if ok && e.Kind == impl.EvHear {
				heard[w.Net[e.At].Kind]++
			}
			if ok {
				done[e.Kind]++
			} else {
				refused[e.Kind]++
			}
			w = does(t, w, e, ok)
			isWorld(t, eventNames[e.Kind%11], true, w)
			list = append(list, e)
		}
		if played := impl.Play(impl.WorldNew(1+run%8), list); !sameWorld(played, w) {
			t.Fatalf("run %d: Play is %q", run, worldTold(played))
		}
		for _, s := range w.Shards {
			for _, r := range s.Log {
				ends[[]string{"", "held", "done", "gone"}[r.Kind]]++
			}
		}
		for _, x := range w.C.Log {
			ends[fmt.Sprint("chosen ", x.Yes)]++
		}
	}
	for kind := impl.EvBegin; kind <= impl.EvFall; kind++ {
		if done[kind] < 100 {
			t.Errorf("%s is done %d times", eventNames[kind], done[kind])
		}
	}
	for _, kind := range []int{0, impl.EvBegin, impl.EvHear, impl.EvDrop, impl.EvDouble, impl.EvSure, impl.EvAsk, impl.EvCrash, 11} {
		if refused[kind] < 20 {
			t.Errorf("kind %d is refused %d times", kind, refused[kind])
		}
	}
	if slices.Min(heard[1:]) < 200 || slices.Min([]int{ends["held"], ends["done"], ends["gone"], ends["chosen true"], ends["chosen false"]}) < 50 {
		t.Errorf("heard %v, ends %v", heard, ends)
	}
}

// A world in which more is said than heard fills up, and stays right at the limits of its lists.
func TestWorldsThatAreFull(t *testing.T) {
	from := rand.New(rand.NewSource(13))
	w := impl.WorldNew(2)
	fullNet, fullOuts := 0, 0
	for i := range 1000 {
		e := impl.Event{Kind: impl.EvTell}
		switch from.Intn(12) {
		case 0:
			e = impl.Event{Kind: impl.EvBegin, Ops: opsOf([]string{"a=1", "b=2", "a=1 b=2"}[i%3])}
		case 1:
			e = impl.Event{Kind: impl.EvDouble, At: from.Intn(len(w.Net) + 1)}
		case 2:
			e = impl.Event{Kind: []int{impl.EvSure, impl.EvCrash}[from.Intn(2)], At: from.Intn(200), N: 1}
		case 3, 4, 5, 6, 7, 8, 9:
			e = impl.Event{Kind: impl.EvHear, At: from.Intn(len(w.Net) + 1)}
		}
		_, ok := doByHand(w, e)
		w = does(t, w, e, ok)
		isWorld(t, "full", true, w)
		if len(w.Net) == mostNet {
			fullNet++
		}
		if len(w.Outs) == mostNet {
			fullOuts++
		}
	}
	if fullNet < 50 || fullOuts < 50 {
		t.Errorf("Net is full %d times, Outs %d times", fullNet, fullOuts)
	}
}

// span is the memory of one list, with the room behind it.
type span struct {
	from, end uintptr
	where     string
}

// spansOf gives the memory of all lists that a value has, those in the room behind them too.
func spansOf(v reflect.Value, where string) []span {
	spans := []span{}
	switch v.Kind() {
	case reflect.Struct:
		for i := range v.NumField() {
			spans = append(spans, spansOf(v.Field(i), where+"."+v.Type().Field(i).Name)...)
		}
	case reflect.Slice:
		if v.Cap() == 0 {
			break
		}
		spans = append(spans, span{v.Pointer(), v.Pointer() + uintptr(v.Cap())*v.Type().Elem().Size(), where})
		for i := range v.Cap() {
			spans = append(spans, spansOf(v.Slice(0, v.Cap()).Index(i), fmt.Sprint(where, "[", i, "]"))...)
		}
	}
	return spans
}

// shareNothing asks that no two lists of all these values have memory in common.
func shareNothing(t *testing.T, what string, values ...any) {
	t.Helper()
	spans := []span{}
	for i, v := range values {
		spans = append(spans, spansOf(reflect.ValueOf(v), fmt.Sprint("value ", i))...)
	}
	slices.SortFunc(spans, func(a span, b span) int { return cmp.Compare(a.from, b.from) })
	for i := 1; i < len(spans); i++ {
		if spans[i].from < spans[i-1].end {
			t.Fatalf("%s: %s and %s share memory", what, spans[i-1].where, spans[i].where)
		}
	}
}

// withSpare is a copy of a value with room behind each list, in which its elements stand once more: they would count, if they were read.
func withSpare[T any](value T) T {
	return copied(value, 3, false)
}

// wholeOf is a copy of all memory of a value: each list goes up to the end of its room.
func wholeOf[T any](value T) T {
	return copied(value, 0, true)
}

func copied[T any](value T, more int, whole bool) T {
	out := reflect.New(reflect.TypeOf(value)).Elem()
	copyInto(out, reflect.ValueOf(value), more, whole)
	return out.Interface().(T)
}

func copyInto(out reflect.Value, v reflect.Value, more int, whole bool) {
	switch v.Kind() {
	case reflect.Struct:
		for i := range v.NumField() {
			copyInto(out.Field(i), v.Field(i), more, whole)
		}
	case reflect.Slice:
		if whole {
			v = v.Slice(0, v.Cap())
		}
		list := reflect.MakeSlice(v.Type(), v.Len()+more, v.Len()+more)
		for i := range list.Len() {
			if v.Len() > 0 {
				copyInto(list.Index(i), v.Index(i%v.Len()), more, whole)
			}
		}
		out.Set(list.Slice(0, v.Len()))
	default:
		out.Set(v)
	}
}

// worldAct answers a world by one call, with events that have room behind their lists, too.
type worldAct struct {
	name string
	list []impl.Event
	act  func(w impl.World, list []impl.Event) impl.World
}

func worldActs(t *testing.T) []worldAct {
	acts := []worldAct{}
	first := func(w impl.World, list []impl.Event) impl.World {
		next, _ := impl.Do(w, list[0])
		return next
	}
	for _, text := range []string{"begin x=1 y=2", "begin a=1 b=1 c=1 d=1 e=1 f=1 g=1 h=1", "begin b=1 a=1", "begin", "decide", "tell", "fall -1", "fall 0", "fall 1", "fall 9", "none", "hear -1"} {
		acts = append(acts, worldAct{text, eventsOf(text), first})
	}
	for at := range 9 {
		for _, name := range []string{"hear", "drop", "double", "sure", "ask", "crash"} {
			text := fmt.Sprint(name, " ", at, " ", at%3)
			acts = append(acts, worldAct{text, eventsOf(text), first})
		}
	}
	for _, text := range []string{"decide; tell", "hear 0; hear 0; hear 0; sure 0; sure 1; sure 2; hear 0", "begin a=1 c=2; double 0; hear 0; sure 1; crash 1; fall 1", "none; none"} {
		acts = append(acts, worldAct{"play " + text, eventsOf(text), impl.Play})
	}
	return append(acts, worldAct{"play nothing", nil, impl.Play})
}

func TestWorldsLeaveTheirArguments(t *testing.T) {
	full, many := busyWorld(t), manyBegun(mostBegun)
	full.Net, full.Outs = append(asking(mostNet-4), full.Net[:4]...), append(full.Outs, asking(mostNet-6)...)
	worlds := []impl.World{{}, impl.WorldNew(1), impl.WorldNew(8), busyWorld(t), holding(t), full, many}
	for _, what := range []string{"N 4", "a shard too many", "in Net vote 0 7 a=1", "begun twice 3", "C: a job twice", "shard: Held twice"} {
		worlds = append(worlds, wrongWorlds(t)[what])
	}
	for i, w := range worlds {
		for _, x := range worldActs(t) {
			what := fmt.Sprint("world ", i, ", ", x.name)
			want := x.act(copyWorld(w), slices.Clone(x.list))
			given, list := withSpare(w), withSpare(x.list)
			before, listBefore := wholeOf(given), wholeOf(list)
			first, second := x.act(given, list), x.act(given, list)
			if impl.WorldOk(given) != worldByHand(w) || !sameWorld(first, want) || !sameWorld(second, want) {
				t.Errorf("%s: read behind a list's end", what)
			}
			if !reflect.DeepEqual(wholeOf(given), before) || !reflect.DeepEqual(wholeOf(list), listBefore) {
				t.Errorf("%s: written into", what)
			}
			shareNothing(t, what, given, list, first, second)
		}
	}
}

func TestNewWorldsShareNothing(t *testing.T) {
	for n := range 10 {
		shareNothing(t, "new", impl.WorldNew(n), impl.WorldNew(n))
	}
}

// A world whose own lists are one memory, and the event's too, is answered with lists of their own.
func TestWorldsOfOneMemory(t *testing.T) {
	ops, yes := opsOf("a=1 b=2"), []int{0}
	recs := []impl.Rec{{Kind: impl.RecHold, Tx: 1000, Ops: ops}}
	words := []impl.Word{{Kind: impl.WordHold, Tx: 1000, Ops: ops}, {Kind: impl.WordHold, Tx: 1001, Ops: ops}, {Kind: impl.WordVote, Tx: 1000, Yes: true}, {Kind: impl.WordAsk, Tx: 1000}}
	w := impl.World{
		C:      impl.Coord{N: 1, Life: 1, Next: 2, Jobs: []impl.Job{{Tx: 1000, Ops: ops, State: impl.JobAsks}, {Tx: 1001, Ops: ops, State: impl.JobYes, Yes: yes}}, Log: logOf("1001+"), Sure: 1},
		Shards: []impl.Shard{{Log: recs, Held: recs}},
		Net:    words, Outs: words,
		Begun: []impl.Order{{Tx: 1000, Ops: ops}, {Tx: 1001, Ops: ops}},
	}
	isWorld(t, "of one memory", true, w)
	before := wholeOf(w)
	for _, x := range worldActs(t) {
		for i := range x.list {
			if len(x.list[i].Ops) == 2 {
				x.list[i].Ops = ops
			}
		}
		first, second := x.act(w, x.list), x.act(w, x.list)
		if !reflect.DeepEqual(wholeOf(w), before) || !sameWorld(first, second) {
			t.Fatalf("%s: written into", x.name)
		}
		shareNothing(t, x.name, first, second)
		for _, mine := range spansOf(reflect.ValueOf(first), "the answer") {
			for _, given := range spansOf(reflect.ValueOf(w), "the world") {
				if mine.from < given.end && given.from < mine.end {
					t.Fatalf("%s: %s and %s share memory", x.name, mine.where, given.where)
				}
			}
		}
	}
}
