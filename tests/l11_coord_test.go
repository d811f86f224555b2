package tests

import (
	"fmt"
	"math"
	"math/rand"
	"slices"
	"strconv"
	"strings"
	"testing"

	"loop.example/g00244/impl"
)

const (
	mostChoices = 1000
	mostLife    = 900
	mostNext    = 999
)

// Of eight shards these keys are at: a 4, b 5, c 2, d 3, e 0, f 1, g 6, h 7, i 4; of three: a 1, b 1, c 2, d 1, g 0.

// jobsOf reads jobs: 1000 a=1 b=2 / asks 4 5; 1001 c=1 / yes 2; 1002 d=1 / no.
func jobsOf(text string) []impl.Job {
	list := []impl.Job{}
	for _, part := range strings.Split(text, ";") {
		head, tail, ok := strings.Cut(part, "/")
		if !ok {
			continue
		}
		number, orders, _ := strings.Cut(strings.TrimSpace(head), " ")
		words := strings.Fields(tail)
		j := impl.Job{Ops: opsOf(orders), State: slices.Index([]string{"", "asks", "yes", "no"}, words[0])}
		j.Tx, _ = strconv.Atoi(number)
		for _, word := range words[1:] {
			shard, _ := strconv.Atoi(word)
			j.Yes = append(j.Yes, shard)
		}
		list = append(list, j)
	}
	return list
}

// logOf reads choices: 1000+ 1001-.
func logOf(text string) []impl.Choice {
	list := []impl.Choice{}
	for _, word := range strings.Fields(text) {
		tx, _ := strconv.Atoi(word[:len(word)-1])
		list = append(list, impl.Choice{Tx: tx, Yes: strings.HasSuffix(word, "+")})
	}
	return list
}

func wordsOf(text string) []impl.Word {
	list := []impl.Word{}
	for _, part := range strings.Split(text, ";") {
		if part = strings.TrimSpace(part); part != "" {
			list = append(list, wordOf(part))
		}
	}
	return list
}

func coordOf(n int, life int, next int, jobs string, log string, sure int) impl.Coord {
	return impl.Coord{N: n, Life: life, Next: next, Jobs: jobsOf(jobs), Log: logOf(log), Sure: sure}
}

// choosing gives n choices of the first life, from 1000 on, yes and no in turn.
func choosing(n int) []impl.Choice {
	list := []impl.Choice{}
	for i := range n {
		list = append(list, impl.Choice{Tx: 1000 + i, Yes: i%2 == 0})
	}
	return list
}

func sameJob(a impl.Job, b impl.Job) bool {
	return a.Tx == b.Tx && a.State == b.State && slices.Equal(a.Ops, b.Ops) && slices.Equal(a.Yes, b.Yes)
}

func sameJobs(a []impl.Job, b []impl.Job) bool {
	return slices.EqualFunc(a, b, sameJob)
}

func sameWords(a []impl.Word, b []impl.Word) bool {
	return slices.EqualFunc(a, b, sameWord)
}

func sameCoord(a impl.Coord, b impl.Coord) bool {
	return a.N == b.N && a.Life == b.Life && a.Next == b.Next && a.Sure == b.Sure && slices.Equal(a.Log, b.Log) && sameJobs(a.Jobs, b.Jobs)
}

func copyCoord(c impl.Coord) impl.Coord {
	c.Jobs, c.Log = slices.Clone(c.Jobs), slices.Clone(c.Log)
	for i := range c.Jobs {
		c.Jobs[i].Ops, c.Jobs[i].Yes = slices.Clone(c.Jobs[i].Ops), slices.Clone(c.Jobs[i].Yes)
	}
	return c
}

func copyWords(l []impl.Word) []impl.Word {
	l = slices.Clone(l)
	for i := range l {
		l[i].Ops = slices.Clone(l[i].Ops)
	}
	return l
}

// choiceByHand gives the place of a transaction in the Log, -1 without.
func choiceByHand(c impl.Coord, tx int) int {
	return slices.IndexFunc(c.Log, func(x impl.Choice) bool { return x.Tx == tx })
}

func jobByHand(c impl.Coord, j impl.Job) bool {
	if j.Tx/1000 != c.Life || j.Tx%1000 >= c.Next || !impl.OpsOk(j.Ops) {
		return false
	}
	shards, _ := shardsByHand(j.Ops, c.N)
	for i, shard := range j.Yes {
		if !slices.Contains(shards, shard) || i > 0 && j.Yes[i-1] >= shard {
			return false
		}
	}
	at := choiceByHand(c, j.Tx)
	return j.State == 1 && at < 0 || j.State == 2 && at >= 0 && c.Log[at].Yes || j.State == 3 && at >= 0 && !c.Log[at].Yes
}

func coordByHand(c impl.Coord) bool {
	if c.N < 1 || c.N > 8 || c.Life < 1 || c.Life > 900 || c.Next < 0 || c.Next > 999 || len(c.Log) > 1000 || c.Sure < 0 || c.Sure > len(c.Log) {
		return false
	}
	for i, x := range c.Log {
		if x.Tx < 1000 || x.Tx >= c.Life*1000+c.Next || choiceByHand(c, x.Tx) != i {
			return false
		}
	}
	for i, j := range c.Jobs {
		if !jobByHand(c, j) || i > 0 && c.Jobs[i-1].Tx >= j.Tx {
			return false
		}
	}
	return true
}

func asksByHand(j impl.Job, n int) []impl.Word {
	list := []impl.Word{}
	shards, parts := shardsByHand(j.Ops, n)
	for _, shard := range shards {
		if !slices.Contains(j.Yes, shard) {
			list = append(list, impl.Word{Kind: impl.WordHold, Shard: shard, Tx: j.Tx, Ops: parts[shard]})
		}
	}
	return list
}

func beginByHand(c impl.Coord, ops []impl.Op) (impl.Coord, []impl.Word, int) {
	if !coordByHand(c) || !impl.OpsOk(ops) || c.Next == 999 || len(c.Log) == 1000 {
		return c, nil, 0
	}
	next := copyCoord(c)
	j := impl.Job{Tx: c.Life*1000 + c.Next, Ops: slices.Clone(ops), State: impl.JobAsks}
	next.Jobs = append(next.Jobs, j)
	next.Next++
	return next, asksByHand(j, c.N), j.Tx
}

func voteByHand(c impl.Coord, shard int, tx int, yes bool) impl.Coord {
	at := slices.IndexFunc(c.Jobs, func(j impl.Job) bool { return j.Tx == tx && j.State == impl.JobAsks })
	if !coordByHand(c) || at < 0 || len(c.Log) == 1000 {
		return c
	}
	shards, _ := shardsByHand(c.Jobs[at].Ops, c.N)
	if !slices.Contains(shards, shard) {
		return c
	}
	next := copyCoord(c)
	j := &next.Jobs[at]
	if yes {
		j.Yes = append(j.Yes, shard)
		slices.Sort(j.Yes)
		j.Yes = slices.Compact(j.Yes)
	}
	if !yes {
		j.State = impl.JobNo
	} else if slices.Equal(j.Yes, shards) {
		j.State = impl.JobYes
	}
	if j.State != impl.JobAsks {
		next.Log = append(next.Log, impl.Choice{Tx: tx, Yes: yes})
	}
	return next
}

func answerByHand(c impl.Coord, tx int) (bool, bool) {
	if !coordByHand(c) || tx < 1000 {
		return false, false
	}
	at := choiceByHand(c, tx)
	if at >= 0 && at < c.Sure {
		return c.Log[at].Yes, true
	}
	return false, at < 0 && tx/1000 < c.Life
}

func tellByHand(c impl.Coord) []impl.Word {
	list := []impl.Word{}
	if !coordByHand(c) {
		return list
	}
	for _, j := range c.Jobs {
		if yes, known := answerByHand(c, j.Tx); known {
			shards, _ := shardsByHand(j.Ops, c.N)
			for _, shard := range shards {
				list = append(list, impl.Word{Kind: impl.WordTell, Shard: shard, Tx: j.Tx, Yes: yes})
			}
		} else if j.State == impl.JobAsks {
			list = append(list, asksByHand(j, c.N)...)
		}
	}
	return list
}

func sureByHand(c impl.Coord) impl.Coord {
	if coordByHand(c) {
		c.Sure = len(c.Log)
	}
	return c
}

func fallByHand(c impl.Coord, keep int) impl.Coord {
	if !coordByHand(c) || c.Life == 900 {
		return c
	}
	left := c.Sure
	for ; keep > 0 && left < len(c.Log); keep-- {
		left++
	}
	return impl.Coord{N: c.N, Life: c.Life + 1, Log: slices.Clone(c.Log[:left]), Sure: left}
}

func isCoord(t *testing.T, what string, want bool, c impl.Coord) {
	t.Helper()
	if impl.CoordOk(c) != want || coordByHand(c) != want {
		t.Errorf("%s: CoordOk is %v, by hand %v, of %v", what, impl.CoordOk(c), coordByHand(c), c)
	}
}

func begins(t *testing.T, c impl.Coord, ops []impl.Op, tx int) impl.Coord {
	t.Helper()
	want, words, _ := beginByHand(c, ops)
	next, said, got := impl.Begin(c, ops)
	if got != tx || !sameCoord(next, want) || !sameWords(said, words) {
		t.Errorf("Begin of %v is %d, not %d: %v %v", ops, got, tx, next, said)
	}
	return next
}

func votes(t *testing.T, c impl.Coord, shard int, tx int, yes bool) impl.Coord {
	t.Helper()
	want := voteByHand(c, shard, tx, yes)
	next := impl.Vote(c, shard, tx, yes)
	if !sameCoord(next, want) {
		t.Errorf("Vote of %d on %d, %v, at %v: %v", shard, tx, yes, c, next)
	}
	return next
}

func answers(t *testing.T, c impl.Coord, tx int, yes bool, known bool) {
	t.Helper()
	if y, k := impl.Answer(c, tx); y != yes || k != known {
		t.Errorf("Answer of %d is %v %v, not %v %v, of %v", tx, y, k, yes, known, c)
	}
	if y, k := answerByHand(c, tx); y != yes || k != known {
		t.Errorf("the answer of %d by hand is %v %v, not %v %v, of %v", tx, y, k, yes, known, c)
	}
}

func tells(t *testing.T, c impl.Coord, words string) {
	t.Helper()
	if got := impl.TellAll(c); !sameWords(got, wordsOf(words)) || !sameWords(got, tellByHand(c)) {
		t.Errorf("TellAll is %v, not %q, of %v", got, words, c)
	}
}

func falls(t *testing.T, c impl.Coord, keep int) impl.Coord {
	t.Helper()
	want := fallByHand(c, keep)
	next := impl.CrashCoord(c, keep)
	if !sameCoord(next, want) {
		t.Errorf("CrashCoord keeping %d of %v: %v", keep, c, next)
	}
	return next
}

func makesSure(t *testing.T, c impl.Coord) impl.Coord {
	t.Helper()
	next := impl.SureAll(c)
	if !sameCoord(next, sureByHand(c)) {
		t.Errorf("SureAll of %v: %v", c, next)
	}
	return next
}

// hasCoord asks all that a right one is, told by texts; of eight shards.
func hasCoord(t *testing.T, c impl.Coord, life int, next int, jobs string, log string, sure int) {
	t.Helper()
	if !sameCoord(c, coordOf(8, life, next, jobs, log, sure)) {
		t.Errorf("it is %v, not life %d, next %d, jobs %q, log %q, sure %d", c, life, next, jobs, log, sure)
	}
	isCoord(t, jobs, true, c)
}

func TestStatesOfJobs(t *testing.T) {
	if impl.JobAsks != 1 || impl.JobYes != 2 || impl.JobNo != 3 {
		t.Error("the states are", impl.JobAsks, impl.JobYes, impl.JobNo)
	}
	for state := -300; state <= 300; state++ {
		for log, right := range map[string]int{"": impl.JobAsks, "1000+": impl.JobYes, "1000-": impl.JobNo, "1001+": impl.JobAsks} {
			c := coordOf(8, 1, 2, "1000 a=1 / asks", log, 0)
			c.Jobs[0].State = state
			isCoord(t, "state "+strconv.Itoa(state)+" beside "+log, state == right, c)
		}
	}
}

func TestNewCoords(t *testing.T) {
	counts := []int{math.MinInt, math.MaxInt, 1 << 32, 1<<32 + 3, -1 << 32}
	for n := -20; n <= 20; n++ {
		counts = append(counts, n)
	}
	for _, n := range counts {
		right := n >= 1 && n <= 8
		want := impl.Coord{}
		if right {
			want = impl.Coord{N: n, Life: 1}
		}
		c := impl.CoordNew(n)
		if !sameCoord(c, want) {
			t.Errorf("CoordNew(%d) = %v", n, c)
		}
		isCoord(t, "new", right, c)
		isCoord(t, "an N", right, impl.Coord{N: n, Life: 1})
		tx := 0
		if right {
			tx = 1000
		}
		begins(t, impl.Coord{N: n, Life: 1}, opsOf("a=1 b=2"), tx)
	}
	isCoord(t, "the zero one", false, impl.Coord{})
}

func TestCoordsBeginAndDecide(t *testing.T) {
	c := impl.CoordNew(8)
	hasCoord(t, c, 1, 0, "", "", 0)
	c = begins(t, c, opsOf("a=1 b=2 c=3 i=4"), 1000)
	hasCoord(t, c, 1, 1, "1000 a=1 b=2 c=3 i=4 / asks", "", 0)
	c = begins(t, c, opsOf("d?"), 1001)
	c = begins(t, c, opsOf("-a g=1"), 1002)
	asked := "1000 a=1 b=2 c=3 i=4 / asks"
	hasCoord(t, c, 1, 3, asked+"; 1001 d? / asks; 1002 -a g=1 / asks", "", 0)
	c = votes(t, c, 5, 1000, true)
	hasCoord(t, c, 1, 3, asked+" 5; 1001 d? / asks; 1002 -a g=1 / asks", "", 0)
	c = votes(t, c, 2, 1000, true)
	hasCoord(t, c, 1, 3, asked+" 2 5; 1001 d? / asks; 1002 -a g=1 / asks", "", 0)
	c = votes(t, c, 3, 1001, true)
	hasCoord(t, c, 1, 3, asked+" 2 5; 1001 d? / yes 3; 1002 -a g=1 / asks", "1001+", 0)
	c = votes(t, c, 6, 1002, true)
	c = votes(t, c, 4, 1002, false)
	hasCoord(t, c, 1, 3, asked+" 2 5; 1001 d? / yes 3; 1002 -a g=1 / no 6", "1001+ 1002-", 0)
	c = makesSure(t, c)
	hasCoord(t, c, 1, 3, asked+" 2 5; 1001 d? / yes 3; 1002 -a g=1 / no 6", "1001+ 1002-", 2)
	c = votes(t, c, 4, 1000, true)
	hasCoord(t, c, 1, 3, "1000 a=1 b=2 c=3 i=4 / yes 2 4 5; 1001 d? / yes 3; 1002 -a g=1 / no 6", "1001+ 1002- 1000+", 2)
	c = falls(t, c, 0)
	hasCoord(t, c, 2, 0, "", "1001+ 1002-", 2)
	c = begins(t, c, opsOf("h=1"), 2000)
	hasCoord(t, c, 2, 1, "2000 h=1 / asks", "1001+ 1002-", 2)
	c = votes(t, c, 7, 2000, true)
	hasCoord(t, c, 2, 1, "2000 h=1 / yes 7", "1001+ 1002- 2000+", 2)
}

func TestWordsOfBeginning(t *testing.T) {
	for text, want := range map[string]string{
		"a=1":                             "hold 4 1000 a=1",
		"-a":                              "hold 4 1000 -a",
		"a=1 b=2 c=3":                     "hold 2 1000 c=3; hold 4 1000 a=1; hold 5 1000 b=2",
		"a? b=2 c?3 i=4":                  "hold 2 1000 c?3; hold 4 1000 a? i=4; hold 5 1000 b=2",
		"a=1 b=1 c=1 d=1 e=1 f=1 g=1 h=1": "hold 0 1000 e=1; hold 1 1000 f=1; hold 2 1000 c=1; hold 3 1000 d=1; hold 4 1000 a=1; hold 5 1000 b=1; hold 6 1000 g=1; hold 7 1000 h=1",
	} {
		c, words, tx := impl.Begin(impl.CoordNew(8), opsOf(text))
		if !sameWords(words, wordsOf(want)) || tx != 1000 {
			t.Errorf("%q: %d %v", text, tx, words)
		}
		tells(t, c, want)
	}
	for n := 1; n <= 8; n++ {
		c := impl.CoordNew(n)
		for i, text := range rightOrders {
			c = begins(t, c, opsOf(text), 1000+i)
			isCoord(t, text, true, c)
		}
		c = begins(t, c, manyOps(8), 1000+len(rightOrders))
		words := impl.TellAll(c)
		if !sameWords(words, tellByHand(c)) || len(words) < len(rightOrders) {
			t.Errorf("of %d shards: %v", n, words)
		}
		for _, w := range words {
			isWord(t, true, w)
		}
	}
}

func TestAllYesOrTheFirstNo(t *testing.T) {
	for n := 1; n <= 8; n++ {
		for _, text := range append([]string{"a=1 b=1 c=1 d=1 e=1 f=1 g=1 h=1"}, rightOrders...) {
			begun := begins(t, impl.CoordNew(n), opsOf(text), 1000)
			shards := impl.ShardsOf(opsOf(text), n)
			for turn := range shards {
				c := begun
				for i := range shards {
					shard := shards[(i*5+turn)%len(shards)]
					if len(shards) == 5 {
						shard = shards[(i+turn)%len(shards)]
					}
					if c.Jobs[0].State != impl.JobAsks || len(c.Log) != 0 || len(c.Jobs[0].Yes) != i {
						t.Errorf("%q of %d: decided early: %v", text, n, c)
					}
					refused := votes(t, c, shard, 1000, false)
					if refused.Jobs[0].State != impl.JobNo || !slices.Equal(refused.Log, logOf("1000-")) || len(refused.Jobs[0].Yes) != i || refused.Sure != 0 {
						t.Errorf("%q of %d: a no: %v", text, n, refused)
					}
					isCoord(t, text, true, refused)
					c = votes(t, c, shard, 1000, true)
					isCoord(t, text, true, c)
				}
				if c.Jobs[0].State != impl.JobYes || !slices.Equal(c.Log, logOf("1000+")) || !slices.Equal(c.Jobs[0].Yes, shards) || c.Sure != 0 {
					t.Errorf("%q of %d: all said yes: %v", text, n, c)
				}
			}
		}
	}
}

func TestVotesThatChangeNothing(t *testing.T) {
	c := coordOf(8, 2, 6, "2000 a=1 b=2 / asks 4; 2001 a=1 c=1 / yes 2 4; 2002 d=1 e=1 / no 0; 2004 f=1 / asks", "1000+ 2001+ 1001- 2002-", 1)
	isCoord(t, "ahead", true, c)
	for _, x := range []struct {
		shard, tx int
		yes       bool
	}{
		{4, 2000, true},
		{2, 2001, true}, {2, 2001, false}, {4, 2001, false}, {3, 2002, true}, {0, 2002, true}, {3, 2002, false},
		{2, 2000, true}, {0, 2000, false}, {-1, 2000, false}, {8, 2000, false}, {9, 2000, true}, {12, 2000, true}, {13, 2000, false}, {math.MinInt, 2000, false}, {math.MaxInt, 2000, true}, {4 + 1<<32, 2000, false},
		{4, 2003, true}, {4, 2003, false}, {4, 2005, false}, {4, 2006, false}, {4, 2999, true}, {4, 3000, false}, {4, 1000, false}, {4, 1001, true}, {4, 1002, false}, {4, 999, false}, {4, 0, false}, {4, -2000, false}, {4, math.MinInt, true}, {4, math.MaxInt, false}, {4, 2000 + 1<<32, false},
	} {
		if next := votes(t, c, x.shard, x.tx, x.yes); !sameCoord(next, c) {
			t.Errorf("shard %d, transaction %d, %v: %v", x.shard, x.tx, x.yes, next)
		}
	}
	for _, x := range []struct {
		shard, tx int
		yes       bool
	}{{5, 2000, true}, {5, 2000, false}, {4, 2000, false}, {1, 2004, true}, {1, 2004, false}} {
		next := votes(t, c, x.shard, x.tx, x.yes)
		if len(next.Log) != 5 || next.Log[4] != (impl.Choice{Tx: x.tx, Yes: x.yes}) || next.Sure != 1 {
			t.Errorf("shard %d, transaction %d, %v: %v", x.shard, x.tx, x.yes, next)
		}
		for _, yes := range []bool{true, false} {
			if again := votes(t, next, x.shard, x.tx, yes); !sameCoord(again, next) {
				t.Errorf("behind the decision, %v: %v", yes, again)
			}
		}
	}
}

// The chapter asks of Yes only that its shards are among those of the order: a job may ask with all of them in it, and be decided with few.
func TestYesesMadeByHand(t *testing.T) {
	all := coordOf(8, 1, 1, "1000 a=1 b=2 / asks 4 5", "", 0)
	isCoord(t, "asks with all", true, all)
	tells(t, all, "")
	for _, shard := range []int{4, 5} {
		hasCoord(t, votes(t, all, shard, 1000, true), 1, 1, "1000 a=1 b=2 / yes 4 5", "1000+", 0)
		hasCoord(t, votes(t, all, shard, 1000, false), 1, 1, "1000 a=1 b=2 / no 4 5", "1000-", 0)
	}
	few := coordOf(8, 1, 2, "1000 a=1 b=2 / yes; 1001 a=1 b=2 / no 4 5", "1000+ 1001-", 2)
	isCoord(t, "decided with few, or all", true, few)
	tells(t, few, "tell 4 1000 yes; tell 5 1000 yes; tell 4 1001; tell 5 1001")
}

func TestAnswersOfLives(t *testing.T) {
	c := coordOf(8, 3, 5, "3000 a=1 / yes 4; 3001 b=1 / no; 3002 c=1 / asks; 3003 d=1 / yes 3; 3004 e=1 / no", "1000+ 2999- 3000+ 3001- 1500+ 1501- 3003+ 3004-", 4)
	isCoord(t, "of three lives", true, c)
	for _, x := range []struct {
		tx         int
		yes, known bool
	}{
		{1000, true, true}, {2999, false, true}, {3000, true, true}, {3001, false, true},
		{3002, false, false}, {3003, false, false}, {3004, false, false},
		{3005, false, false}, {3006, false, false}, {3999, false, false}, {4000, false, false}, {900000, false, false}, {1000000, false, false}, {math.MaxInt, false, false},
		{1001, false, true}, {1499, false, true}, {1999, false, true}, {2000, false, true}, {2998, false, true},
		{1500, false, false}, {1501, false, false},
		{999, false, false}, {998, false, false}, {500, false, false}, {1, false, false}, {0, false, false}, {-1, false, false}, {-1000, false, false}, {math.MinInt, false, false}, {1000 + 1<<32, false, false},
	} {
		answers(t, c, x.tx, x.yes, x.known)
	}
	sure := makesSure(t, c)
	for tx, yes := range map[int]bool{1000: true, 2999: false, 3000: true, 3001: false, 1500: true, 1501: false, 3003: true, 3004: false} {
		answers(t, sure, tx, yes, true)
	}
	answers(t, sure, 3002, false, false)
	first := begins(t, impl.CoordNew(8), opsOf("a=1"), 1000)
	for _, tx := range []int{999, 1000, 1001, 1999, 2000} {
		answers(t, first, tx, false, false)
	}
	second := falls(t, first, 0)
	for tx, known := range map[int]bool{999: false, 1000: true, 1001: true, 1999: true, 2000: false, 2001: false} {
		answers(t, second, tx, false, known)
	}
}

func TestAnswersGoByWhatIsSure(t *testing.T) {
	log := "1000+ 1001- 1002- 1003+"
	c := coordOf(8, 1, 5, "1000 a=1 / yes 4; 1001 b=1 / no; 1002 c=1 / no; 1003 d=1 / yes 3; 1004 e=1 / asks", log, 0)
	for sure := range 5 {
		c.Sure = sure
		for i, choice := range logOf(log) {
			answers(t, c, choice.Tx, choice.Yes && i < sure, i < sure)
		}
		answers(t, c, 1004, false, false)
	}
	for sure := -3; sure <= 8; sure++ {
		c.Sure = sure
		right := sure >= 0 && sure <= 4
		isCoord(t, "Sure", right, c)
		makesSure(t, c)
		if !right {
			answers(t, c, 1000, false, false)
			tells(t, c, "")
		}
	}
}

func TestTellingAll(t *testing.T) {
	for _, x := range []struct {
		jobs, log string
		sure      int
		words     string
	}{
		{"", "", 0, ""},
		{"", "1000+ 1001-", 2, ""},
		{"2000 a=1 b=2 c=3 / asks", "", 0, "hold 2 2000 c=3; hold 4 2000 a=1; hold 5 2000 b=2"},
		{"2000 a=1 b=2 c=3 / asks 4", "", 0, "hold 2 2000 c=3; hold 5 2000 b=2"},
		{"2000 a=1 b=2 c=3 / asks 2 5", "", 0, "hold 4 2000 a=1"},
		{"2000 a=1 b=2 c=3 i? / asks 2 5", "1000+", 1, "hold 4 2000 a=1 i?"},
		{"2000 a=1 b=2 / yes 4 5", "2000+", 0, ""},
		{"2000 a=1 b=2 / yes 4 5", "2000+", 1, "tell 4 2000 yes; tell 5 2000 yes"},
		{"2000 a=1 b=2 / no 4", "2000-", 0, ""},
		{"2000 a=1 b=2 / no 4", "2000-", 1, "tell 4 2000; tell 5 2000"},
		{"2000 a=1 / no; 2003 b=1 / yes 5; 2005 c=1 / asks", "2000- 2003+", 1, "tell 4 2000; hold 2 2005 c=1"},
		{"2000 a=1 / no; 2003 b=1 / yes 5; 2005 c=1 / asks", "2003+ 2000-", 1, "tell 5 2003 yes; hold 2 2005 c=1"},
		{"2000 a=1 / asks; 2003 b=1 c=1 / yes 2 5; 2005 d=1 / no", "2005- 2003+", 2, "hold 4 2000 a=1; tell 2 2003 yes; tell 5 2003 yes; tell 3 2005"},
		{"2001 a=1 / asks; 2002 a=1 / asks; 2004 a=1 / asks 4", "2000+ 2003-", 1, "hold 4 2001 a=1; hold 4 2002 a=1"},
	} {
		c := coordOf(8, 2, 6, x.jobs, x.log, x.sure)
		isCoord(t, x.jobs, true, c)
		tells(t, c, x.words)
		tells(t, falls(t, c, 0), "")
	}
	three := coordOf(3, 1, 2, "1000 a=1 b=2 c=3 d=4 g=5 / asks 2; 1001 a=1 g=5 / yes 0 1", "1001+", 1)
	tells(t, three, "hold 0 1000 g=5; hold 1 1000 a=1 b=2 d=4; tell 0 1001 yes; tell 1 1001 yes")
	one := coordOf(1, 1, 2, "1000 a=1 b=2 c=3 / asks; 1001 a=1 g=5 / no", "1001-", 1)
	tells(t, one, "hold 0 1000 a=1 b=2 c=3; tell 0 1001")
}

func TestFallsKeepWhatIsSure(t *testing.T) {
	log := "1000+ 1500- 2000- 2003+ 2001+"
	for sure := range 6 {
		c := coordOf(8, 2, 5, "2000 a=1 / no; 2001 b=1 / yes 5; 2002 c=1 / asks; 2003 d=1 e=1 / yes 0 3", log, sure)
		for _, keep := range []int{math.MinInt, -5, -1, 0, 1, 2, 3, 4, 5, 6, 1000, math.MaxInt - 1, math.MaxInt} {
			left := sure
			for i := 0; i < keep && left < 5; i++ {
				left++
			}
			next := falls(t, c, keep)
			if !sameCoord(next, coordOf(8, 3, 0, "", strings.Join(strings.Fields(log)[:left], " "), left)) {
				t.Errorf("%d are sure, %d kept: %v", sure, keep, next)
			}
			isCoord(t, "fallen", true, next)
			for i, choice := range logOf(log) {
				answers(t, next, choice.Tx, choice.Yes && i < left, true)
			}
			if again := falls(t, next, 0); !slices.Equal(again.Log, next.Log) || again.Life != 4 || again.Sure != left {
				t.Errorf("what is left is not sure: %v", again)
			}
			begins(t, next, opsOf("a=1"), 3000)
		}
		all := falls(t, makesSure(t, c), 0)
		if !slices.Equal(all.Log, logOf(log)) || all.Sure != 5 || all.Life != 3 || all.Next != 0 || len(all.Jobs) != 0 || all.N != 8 {
			t.Errorf("SureAll and a crash: %v", all)
		}
	}
}

// A choice of an earlier life that is not sure can be made by hand alone. It may still become sure: nothing is told of it until then.
func TestChoicesOfAnEarlierLifeThatAreNotSure(t *testing.T) {
	c := coordOf(8, 2, 0, "", "1000+ 1001-", 0)
	isCoord(t, "not sure", true, c)
	for _, tx := range []int{1000, 1001} {
		answers(t, c, tx, false, false)
		answers(t, makesSure(t, c), tx, tx == 1000, true)
		answers(t, falls(t, c, 0), tx, false, true)
		answers(t, falls(t, c, 2), tx, tx == 1000, true)
	}
	answers(t, c, 1002, false, true)
}

func TestEdgesOfLives(t *testing.T) {
	for _, life := range []int{math.MinInt, -900, -1, 0, 1, 2, 899, 900, 901, 1000, 1 << 32, 1<<32 + 1, math.MaxInt} {
		right := life >= 1 && life <= mostLife
		c := impl.Coord{N: 8, Life: life}
		isCoord(t, "a life", right, c)
		tx := 0
		if right {
			tx = life * 1000
		}
		next := begins(t, c, opsOf("a=1 b=1"), tx)
		if right {
			next = votes(t, votes(t, next, 4, tx, true), 5, tx, true)
			answers(t, makesSure(t, next), tx, true, true)
			answers(t, next, tx, false, false)
			answers(t, next, tx-1, false, life > 1)
		}
		fallen := falls(t, next, 1)
		if life == mostLife || !right {
			if !sameCoord(fallen, next) {
				t.Errorf("life %d: %v", life, fallen)
			}
		} else if fallen.Life != life+1 || fallen.Next != 0 || len(fallen.Jobs) != 0 || fallen.Sure != 1 {
			t.Errorf("life %d: %v", life, fallen)
		}
	}
	c := impl.CoordNew(8)
	for life := 1; life < mostLife; life++ {
		c = impl.CrashCoord(begins(t, c, opsOf("a=1"), life*1000), 0)
	}
	hasCoord(t, c, mostLife, 0, "", "", 0)
	last := votes(t, begins(t, c, opsOf("a=1"), 900000), 4, 900000, true)
	hasCoord(t, falls(t, last, 1), mostLife, 1, "900000 a=1 / yes 4", "900000+", 0)
	hasCoord(t, falls(t, last, 0), mostLife, 1, "900000 a=1 / yes 4", "900000+", 0)
	answers(t, last, 899999, false, true)
	answers(t, last, 900000, false, false)
}

func TestEdgesOfNumbers(t *testing.T) {
	for _, life := range []int{1, 7, 900} {
		for _, number := range []int{math.MinInt, -1000, -1, 0, 1, 500, 997, 998, 999, 1000, 1001, 1 << 32, math.MaxInt} {
			right := number >= 0 && number <= mostNext
			c := impl.Coord{N: 8, Life: life, Next: number}
			isCoord(t, "a number", right, c)
			tx := 0
			if right && number < mostNext {
				tx = life*1000 + number
			}
			next := begins(t, c, opsOf("a=1"), tx)
			if tx == 0 && !sameCoord(next, c) || tx != 0 && (next.Next != number+1 || next.Jobs[0].Tx != tx) {
				t.Errorf("life %d, next %d: %v", life, number, next)
			}
			isCoord(t, "begun", right, next)
			if tx != 0 {
				answers(t, makesSure(t, votes(t, next, 4, tx, true)), tx, true, true)
			}
		}
	}
	c := impl.CoordNew(2)
	for i := range mostNext {
		c, _, _ = impl.Begin(c, opsOf("a=1"))
		if len(c.Jobs) != i+1 || c.Jobs[i].Tx != 1000+i {
			t.Fatalf("behind %d: %v", i, c.Jobs[i])
		}
	}
	isCoord(t, "all begun", true, c)
	begins(t, c, opsOf("a=1"), 0)
	votes(t, c, 0, 1998, true)
	begins(t, falls(t, c, 0), opsOf("a=1"), 2000)
}

func TestHowManyChoicesThereMayBe(t *testing.T) {
	for _, count := range []int{0, 1, 998, 999, 1000, 1001, 1500} {
		c := coordOf(8, 3, 5, "3000 a=1 b=1 / asks 4; 3002 c=1 / asks", "", 0)
		c.Log = choosing(count)
		right, room := count <= mostChoices, count < mostChoices
		isCoord(t, "choices", right, c)
		tx := 0
		if room {
			tx = 3005
		}
		next := begins(t, c, opsOf("a=1"), tx)
		if !room && !sameCoord(next, c) {
			t.Errorf("begun beside %d", count)
		}
		for _, yes := range []bool{true, false} {
			for _, x := range [][2]int{{5, 3000}, {4, 3000}, {2, 3002}} {
				next := votes(t, c, x[0], x[1], yes)
				if !room && !sameCoord(next, c) {
					t.Errorf("a vote beside %d: %v", count, next.Jobs)
				}
				isCoord(t, "voted", right, next)
			}
		}
		makesSure(t, c)
		for _, keep := range []int{-1, 0, 1, 999, 1000, 1001, 5000} {
			isCoord(t, "fallen", right, falls(t, c, keep))
		}
		if words := impl.TellAll(c); !sameWords(words, tellByHand(c)) || right != (len(words) == 2) {
			t.Errorf("%d choices: %v", count, words)
		}
		answers(t, makesSure(t, c), 1000, right && count > 0, right)
	}
}

// A yes that decides nothing is refused, too, beside as many choices as there may be.
func TestVotesBesideAllChoices(t *testing.T) {
	c := coordOf(8, 3, 1, "3000 a=1 b=1 c=1 / asks", "", 0)
	c.Log = choosing(mostChoices)
	if next := votes(t, c, 4, 3000, true); len(next.Jobs[0].Yes) != 0 || !sameCoord(next, c) {
		t.Errorf("heard: %v", next.Jobs)
	}
	c.Log = choosing(mostChoices - 1)
	if next := votes(t, c, 4, 3000, true); !slices.Equal(next.Jobs[0].Yes, []int{4}) {
		t.Errorf("not heard: %v", next.Jobs)
	}
	if next := votes(t, c, 4, 3000, false); len(next.Log) != mostChoices || next.Jobs[0].State != impl.JobNo || !impl.CoordOk(next) {
		t.Errorf("the last choice: %v", next.Jobs)
	}
}

// wrongCoords: each not as the chapter tells, by one thing alone.
func wrongCoords() map[string]impl.Coord {
	list := map[string]impl.Coord{}
	bend := func(what string, change func(c *impl.Coord)) {
		c := coordOf(8, 2, 9, "2000 a=1 b=2 / asks 4; 2001 a=1 c=1 / yes 2 4; 2004 d=1 e=1 / no 0; 2008 f=1 / asks", "1000+ 2001+ 1001- 2004- 2002+", 3)
		change(&c)
		list[what] = c
	}
	for _, n := range []int{math.MinInt, -1, 0, 9, math.MaxInt} {
		bend("N "+strconv.Itoa(n), func(c *impl.Coord) { c.N = n })
	}
	for _, life := range []int{math.MinInt, 0, 1, 3, 901, math.MaxInt} {
		bend("Life "+strconv.Itoa(life), func(c *impl.Coord) { c.Life = life })
	}
	for _, next := range []int{math.MinInt, -1, 0, 8, 1000, math.MaxInt} {
		bend("Next "+strconv.Itoa(next), func(c *impl.Coord) { c.Next = next })
	}
	for _, sure := range []int{math.MinInt, -1, 6, math.MaxInt} {
		bend("Sure "+strconv.Itoa(sure), func(c *impl.Coord) { c.Sure = sure })
	}
	for _, tx := range []int{math.MinInt, -1, 0, 999, 2009, 2010, 3000, 1000000, math.MaxInt, 2000} {
		bend("a choice of "+strconv.Itoa(tx), func(c *impl.Coord) { c.Log[4].Tx = tx })
	}
	bend("a choice twice", func(c *impl.Coord) { c.Log[4] = c.Log[0] })
	bend("a choice twice, otherwise", func(c *impl.Coord) { c.Log[4] = impl.Choice{Tx: 1000} })
	bend("a yes beside a no", func(c *impl.Coord) { c.Log[0] = impl.Choice{Tx: 1001, Yes: true} })
	bend("a job of both choices", func(c *impl.Coord) { c.Log[4] = impl.Choice{Tx: 2001} })
	for _, tx := range []int{math.MinInt, -2000, 0, 999, 1000, 1500, 1999, 2001, 2004, 2005, 3000, math.MaxInt} {
		bend("the first job is "+strconv.Itoa(tx), func(c *impl.Coord) { c.Jobs[0].Tx = tx })
	}
	for _, tx := range []int{0, 1000, 1002, 2000, 2001, 2003, 2004, 2009, 2010, 3000, 3008, 1000000, math.MaxInt} {
		bend("the last job is "+strconv.Itoa(tx), func(c *impl.Coord) { c.Jobs[3].Tx = tx })
	}
	bend("jobs fall", func(c *impl.Coord) { slices.Reverse(c.Jobs) })
	bend("a job twice", func(c *impl.Coord) { c.Jobs = append(c.Jobs, c.Jobs[3]) })
	for i, text := range wrongOrders {
		bend("orders "+text, func(c *impl.Coord) { c.Jobs[i%4].Ops, c.Jobs[i%4].Yes = opsOf(text), nil })
	}
	for i, yes := range [][]int{{0}, {3}, {6}, {-1}, {8}, {12}, {4, 4}, {5, 5}, {5, 4}, {4, 5, 5}, {4, 5, 4}, {4, 5, 6}, {3, 4}, {0, 4, 5}, {4, 0, 5}, {math.MinInt}, {math.MaxInt}, {4 + 1<<32}} {
		bend("Yes "+strconv.Itoa(i), func(c *impl.Coord) { c.Jobs[0].Yes = yes })
	}
	bend("a Yes of a job of yes", func(c *impl.Coord) { c.Jobs[1].Yes = []int{2, 5} })
	bend("a Yes of a job of no", func(c *impl.Coord) { c.Jobs[2].Yes = []int{0, 0} })
	for _, state := range []int{math.MinInt, -1, 0, impl.JobYes, impl.JobNo, 4, math.MaxInt} {
		bend("one that asks is "+strconv.Itoa(state), func(c *impl.Coord) { c.Jobs[0].State = state })
	}
	for _, state := range []int{-1, 0, impl.JobAsks, impl.JobNo, 4} {
		bend("one of yes is "+strconv.Itoa(state), func(c *impl.Coord) { c.Jobs[1].State = state })
	}
	for _, state := range []int{-1, 0, impl.JobAsks, impl.JobYes, 4} {
		bend("one of no is "+strconv.Itoa(state), func(c *impl.Coord) { c.Jobs[2].State = state })
	}
	bend("a yes is missing", func(c *impl.Coord) { c.Log[1].Tx = 1002 })
	bend("a no is missing", func(c *impl.Coord) { c.Log[3].Tx = 1002 })
	bend("a yes says otherwise", func(c *impl.Coord) { c.Log[1].Yes = false })
	bend("a no says otherwise", func(c *impl.Coord) { c.Log[3].Yes = true })
	bend("one that asks has a yes", func(c *impl.Coord) { c.Log = append(c.Log, impl.Choice{Tx: 2008, Yes: true}) })
	bend("one that asks has a no", func(c *impl.Coord) { c.Log = append(c.Log, impl.Choice{Tx: 2008}) })
	bend("no Log", func(c *impl.Coord) { c.Log, c.Sure = nil, 0 })
	list["zero"] = impl.Coord{}
	list["no Life"] = impl.Coord{N: 3}
	list["no N"] = impl.Coord{Life: 1}
	list["a job of nothing"] = coordOf(3, 1, 0, "1000 a=1 / asks", "", 0)
	list["a choice of nothing"] = coordOf(3, 1, 0, "", "1000+", 0)
	list["Sure of nothing"] = impl.Coord{N: 3, Life: 1, Sure: 1}
	list["too many choices"] = impl.Coord{N: 3, Life: 3, Log: choosing(1001), Sure: 1001}
	list["far too many choices"] = impl.Coord{N: 3, Life: 9, Log: choosing(5000)}
	return list
}

func TestWrongCoords(t *testing.T) {
	for what, c := range wrongCoords() {
		isCoord(t, what, false, c)
		for _, orders := range []string{"x=1", "a=1 b=2", ""} {
			if next := begins(t, c, opsOf(orders), 0); !sameCoord(next, c) {
				t.Errorf("%s: Begin is %v", what, next)
			}
		}
		for _, tx := range []int{999, 1000, 1001, 1002, 2000, 2001, 2003, 2004, 2008, 2009, 3000} {
			answers(t, c, tx, false, false)
			for shard := -1; shard <= 8; shard++ {
				for _, yes := range []bool{true, false} {
					if next := votes(t, c, shard, tx, yes); !sameCoord(next, c) {
						t.Errorf("%s: Vote is %v", what, next)
					}
				}
			}
		}
		tells(t, c, "")
		for _, keep := range []int{-1, 0, 1, 6, math.MaxInt} {
			if next := falls(t, c, keep); !sameCoord(next, c) {
				t.Errorf("%s: CrashCoord is %v", what, next)
			}
		}
		if next := makesSure(t, c); !sameCoord(next, c) {
			t.Errorf("%s: SureAll is %v", what, next)
		}
	}
}

func TestRightCoords(t *testing.T) {
	for _, x := range []struct {
		life, next int
		jobs, log  string
	}{
		{1, 0, "", ""}, {1, 1, "", "1000+"}, {1, 1, "1000 a=1 / asks", ""}, {1, 3, "1002 a=1 / asks", "1000- 1001+"},
		{2, 9, "2000 a=1 b=2 / asks 4; 2001 a=1 c=1 / yes 2 4; 2004 d=1 e=1 / no 0; 2008 f=1 / asks", "1000+ 2001+ 1001- 2004- 2002+"},
		{2, 9, "2000 a=1 b=2 / asks 4 5; 2008 a=1 c=1 / yes", "2008+ 1999-"}, {2, 0, "", "1999+ 1000- 1998-"}, {3, 1, "", "3000+ 2999- 1000+ 1001-"},
		{900, 999, "900000 a=1 / asks; 900998 a=1 / no 4", "900998- 900997+ 1000+"},
	} {
		for n := 1; n <= 8; n++ {
			c := coordOf(n, x.life, x.next, x.jobs, x.log, 0)
			for i := range c.Jobs {
				c.Jobs[i].Yes = slices.DeleteFunc(c.Jobs[i].Yes, func(shard int) bool { return n < 8 })
			}
			for c.Sure = 0; c.Sure <= len(c.Log); c.Sure++ {
				isCoord(t, x.jobs+" beside "+x.log, true, c)
			}
		}
	}
	isCoord(t, "with empty lists", true, impl.Coord{N: 1, Life: 1, Jobs: []impl.Job{}, Log: []impl.Choice{}})
	isCoord(t, "with as many choices as may be", true, impl.Coord{N: 1, Life: 2, Log: choosing(1000), Sure: 1000})
	every := impl.Coord{N: 8, Life: 1, Next: 8}
	for i := range 8 {
		every.Jobs = append(every.Jobs, impl.Job{Tx: 1000 + i, Ops: manyOps(1 + i), State: impl.JobAsks, Yes: impl.ShardsOf(manyOps(1+i), 8)})
	}
	isCoord(t, "with all that said yes", true, every)
}

func TestOrdersThatAreNotBegun(t *testing.T) {
	for _, c := range []impl.Coord{impl.CoordNew(1), impl.CoordNew(8), coordOf(8, 2, 9, "2001 a=1 c=1 / yes 2 4; 2008 f=1 / asks", "1000+ 2001+", 1)} {
		for _, text := range wrongOrders {
			if next := begins(t, c, opsOf(text), 0); !sameCoord(next, c) {
				t.Errorf("%q: %v", text, next)
			}
		}
		for n := range 12 {
			tx := 0
			if n >= 1 && n <= 8 {
				tx = c.Life*1000 + c.Next
			}
			begins(t, c, manyOps(n), tx)
		}
		begins(t, c, nil, 0)
		begins(t, c, []impl.Op{{}}, 0)
	}
}

// stepOf does one thing with c by its words, whatever comes of it.
func stepOf(t *testing.T, from *rand.Rand, c impl.Coord) (impl.Coord, string) {
	t.Helper()
	orders := []string{"a=1", "-a", "a=1 b=2", "a=1 b=2 c=3 d=4", "e? f=1", "g=1 h=1 i=1", "a=1 b=1 c=1 d=1 e=1 f=1 g=1 h=1", "b=1 a=1", ""}
	switch from.Intn(12) {
	case 0, 1:
		ops := opsOf(orders[from.Intn(len(orders))])
		_, _, tx := beginByHand(c, ops)
		return begins(t, c, ops, tx), "begin"
	case 10:
		return makesSure(t, c), "sure"
	case 11:
		if from.Intn(3) == 0 {
			return falls(t, c, from.Intn(5)-2), "fall"
		}
	}
	tx, shard := c.Life*1000+from.Intn(c.Next+1), from.Intn(c.N+1)
	if len(c.Jobs) > 0 && from.Intn(8) > 0 {
		j := c.Jobs[from.Intn(len(c.Jobs))]
		tx = j.Tx
		shards := impl.ShardsOf(j.Ops, c.N)
		shard = shards[from.Intn(len(shards))]
	}
	return votes(t, c, shard, tx, from.Intn(9) > 0), "vote"
}

// What is told, by an answer or by a word, is sure: nothing that comes behind it turns it.
func TestWhatIsToldStays(t *testing.T) {
	from := rand.New(rand.NewSource(11))
	acts, toldYes, toldNo, presumed := map[string]int{}, 0, 0, 0
	for range 250 {
		c := impl.CoordNew(1 + from.Intn(8))
		told := map[int]bool{}
		for range 60 {
			next, act := stepOf(t, from, c)
			c = next
			acts[act]++
			isCoord(t, act, true, c)
			if !sameWords(impl.TellAll(c), tellByHand(c)) {
				t.Errorf("TellAll of %v: %v", c, impl.TellAll(c))
			}
			for _, w := range impl.TellAll(c) {
				if w.Kind == impl.WordTell {
					answers(t, c, w.Tx, w.Yes, true)
				}
			}
			for life := 1; life <= c.Life; life++ {
				for number := range 12 {
					tx := life*1000 + number
					yes, known := impl.Answer(c, tx)
					y, k := answerByHand(c, tx)
					before, was := told[tx]
					if yes != y || known != k || was && (!known || yes != before) {
						t.Fatalf("Answer of %d is %v %v, of %v", tx, yes, known, c)
					}
					if known && !was {
						told[tx] = yes
					}
				}
			}
		}
		for tx, yes := range told {
			switch at := choiceByHand(c, tx); {
			case yes:
				toldYes++
			case at >= 0:
				toldNo++
			default:
				presumed++
			}
		}
	}
	if toldYes < 200 || toldNo < 200 || presumed < 200 || acts["fall"] < 200 || acts["sure"] < 200 || acts["begin"] < 500 || acts["vote"] < 2000 {
		t.Errorf("told yes %d, no %d, presumed %d, acts %v", toldYes, toldNo, presumed, acts)
	}
}

// What is told of anything right, made by hand too, is told again behind a crash and behind SureAll.
func TestWhatIsToldIsSure(t *testing.T) {
	from := rand.New(rand.NewSource(12))
	known := 0
	for range 3000 {
		c := impl.Coord{N: 1 + from.Intn(8), Life: 1 + from.Intn(3), Next: from.Intn(4)}
		for life := 1; life <= c.Life; life++ {
			for number := range 4 {
				tx := life*1000 + number
				if from.Intn(2) == 0 && (life < c.Life || number < c.Next) {
					c.Log = append(c.Log, impl.Choice{Tx: tx, Yes: from.Intn(2) == 0})
				}
			}
		}
		from.Shuffle(len(c.Log), func(i int, j int) { c.Log[i], c.Log[j] = c.Log[j], c.Log[i] })
		c.Sure = from.Intn(len(c.Log) + 1)
		isCoord(t, "by hand", true, c)
		for life := range 5 {
			for number := range 5 {
				tx := life*1000 + number
				yes, is := answerByHand(c, tx)
				answers(t, c, tx, yes, is)
				if is {
					known++
					answers(t, makesSure(t, c), tx, yes, true)
					answers(t, falls(t, c, from.Intn(6)-1), tx, yes, true)
				}
			}
		}
	}
	if known < 10000 {
		t.Errorf("%d are known", known)
	}
}

// coordWithRoom gives c with spare room behind each of its lists, and the whole memory of all. What lies in the room would count, if it were read.
func coordWithRoom(c impl.Coord) (given impl.Coord, whole impl.Coord) {
	given, whole = copyCoord(c), c
	tx := c.Life*1000 + c.Next
	whole.Jobs = append(given.Jobs, jobsOf(fmt.Sprintf("%d a=1 / asks; 1000 b=1 / yes", tx-1))...)
	whole.Log = append(given.Log, impl.Choice{Tx: tx - 1}, impl.Choice{Tx: 1000, Yes: true}, impl.Choice{})
	for i := range whole.Jobs {
		j := &whole.Jobs[i]
		j.Ops, _ = opsWithRoom(j.Ops)
		j.Yes = append(slices.Clone(j.Yes), 0, 1, 2, 3, 4, 5, 6, 7)[:len(j.Yes)]
	}
	given.Jobs, given.Log = whole.Jobs[:len(c.Jobs)], whole.Log[:len(c.Log)]
	return given, whole
}

// allOfCoord has each list with what lies in the room behind it.
func allOfCoord(whole impl.Coord) impl.Coord {
	whole.Jobs, whole.Log = slices.Clone(whole.Jobs), slices.Clone(whole.Log)
	for i := range whole.Jobs {
		j := &whole.Jobs[i]
		j.Ops, j.Yes = slices.Clone(j.Ops[:cap(j.Ops)]), slices.Clone(j.Yes[:cap(j.Yes)])
	}
	return whole
}

func spoilYes(l []int) {
	for i := range l[:cap(l)] {
		l[:cap(l)][i] = 99
	}
}

func spoilJobs(l []impl.Job) {
	for _, j := range l {
		spoilOps(j.Ops)
		spoilYes(j.Yes)
	}
	for i := range l[:cap(l)] {
		l[:cap(l)][i] = impl.Job{Tx: 9, Ops: opsOf("9:other=other"), State: 9, Yes: []int{99}}
	}
}

func spoilLog(l []impl.Choice) {
	for i := range l[:cap(l)] {
		l[:cap(l)][i] = impl.Choice{Tx: 99, Yes: true}
	}
}

func spoilWords(l []impl.Word) {
	for _, w := range l {
		spoilOps(w.Ops)
	}
	for i := range l[:cap(l)] {
		l[:cap(l)][i] = impl.Word{Kind: 9, Shard: 9, Tx: 9, Ops: opsOf("9:other=other"), Yes: true}
	}
}

// coordAnswer is all that one call answers: what it does not answer is empty.
type coordAnswer struct {
	c     impl.Coord
	words []impl.Word
}

func sameAnswer(a coordAnswer, b coordAnswer) bool {
	return sameCoord(a.c, b.c) && sameWords(a.words, b.words)
}

// coordActs: all that answers lists, by name; ops are the orders that begin.
func coordActs(ops []impl.Op) map[string]func(c impl.Coord) coordAnswer {
	acts := map[string]func(c impl.Coord) coordAnswer{
		"sure": func(c impl.Coord) coordAnswer { return coordAnswer{c: impl.SureAll(c)} },
		"tell": func(c impl.Coord) coordAnswer { return coordAnswer{words: impl.TellAll(c)} },
		"begin": func(c impl.Coord) coordAnswer {
			next, words, _ := impl.Begin(c, ops)
			return coordAnswer{next, words}
		},
	}
	for _, keep := range []int{-1, 0, 1, 9} {
		acts[fmt.Sprint("fall ", keep)] = func(c impl.Coord) coordAnswer { return coordAnswer{c: impl.CrashCoord(c, keep)} }
	}
	for _, x := range [][2]int{{4, 2000}, {5, 2000}, {2, 2001}, {1, 2008}, {9, 2000}, {0, 999}} {
		for _, yes := range []bool{true, false} {
			acts[fmt.Sprint("vote ", x, yes)] = func(c impl.Coord) coordAnswer { return coordAnswer{c: impl.Vote(c, x[0], x[1], yes)} }
		}
	}
	return acts
}

// listsShareNothing spoils the lists of an answer, one behind the other: what was not spoiled must stay as it was.
func listsShareNothing(t *testing.T, what string, a coordAnswer) {
	t.Helper()
	want := coordAnswer{copyCoord(a.c), copyWords(a.words)}
	spoil := func(list string, in func(), mend func()) {
		in()
		mend()
		if !sameAnswer(a, want) {
			t.Fatalf("%s: %s shares memory", what, list)
		}
	}
	for i := range a.c.Jobs {
		j, right := &a.c.Jobs[i], want.c.Jobs[i]
		spoil(fmt.Sprint("the Ops of job ", i), func() { spoilOps(j.Ops) }, func() { j.Ops = slices.Clone(right.Ops) })
		spoil(fmt.Sprint("the Yes of job ", i), func() { spoilYes(j.Yes) }, func() { j.Yes = slices.Clone(right.Yes) })
	}
	for i := range a.words {
		w, right := &a.words[i], want.words[i]
		spoil(fmt.Sprint("the Ops of word ", i), func() { spoilOps(w.Ops) }, func() { w.Ops = slices.Clone(right.Ops) })
	}
	spoil("Jobs", func() { spoilJobs(a.c.Jobs) }, func() { a.c.Jobs = copyCoord(want.c).Jobs })
	spoil("Log", func() { spoilLog(a.c.Log) }, func() { a.c.Log = slices.Clone(want.c.Log) })
	spoil("the words", func() { spoilWords(a.words) }, func() { a.words = copyWords(want.words) })
}

func TestCoordsLeaveTheirArguments(t *testing.T) {
	coords := []impl.Coord{
		{}, impl.CoordNew(8), coordOf(8, 1, 2, "1001 a=1 / asks", "1000+", 0),
		coordOf(8, 2, 9, "2000 a=1 b=2 / asks 4; 2001 a=1 c=1 / yes 2 4; 2004 d=1 e=1 / no 0; 2008 f=1 / asks", "1000+ 2001+ 1001- 2004- 2002+", 2),
		coordOf(8, 2, 9, "2000 a=1 b=2 / asks 4; 2001 a=1 c=1 / yes 2 4", "1000+ 2001+", 2),
		coordOf(8, 900, 999, "900000 a=1 b=2 / asks 4", "900001+", 1),
		coordOf(9, 2, 9, "2000 a=1 b=2 / asks 4; 2001 a=1 / asks", "1000+ 2001+", 2), coordOf(8, 2, 9, "2008 a=1 b=2 / asks 4 4; 2000 b=1 a=1 / no", "999+ 999+", 7),
	}
	for i, c := range coords {
		for _, text := range []string{"x=1 y=2", "a=1 b=1 c=1 d=1", "b=1 a=1", ""} {
			ops, wholeOps := opsWithRoom(opsOf(text))
			for name, act := range coordActs(ops) {
				what := fmt.Sprint("coord ", i, ", ", name, ", ", strings.Fields(text))
				want := act(copyCoord(c))
				want = coordAnswer{copyCoord(want.c), copyWords(want.words)}
				given, whole := coordWithRoom(c)
				before, opsBefore := allOfCoord(whole), slices.Clone(wholeOps)
				impl.CoordOk(given)
				impl.Answer(given, 2001)
				first, second := act(given), act(given)
				spoilJobs(second.c.Jobs)
				spoilLog(second.c.Log)
				spoilWords(second.words)
				if !sameCoord(allOfCoord(whole), before) || !slices.Equal(wholeOps, opsBefore) || !sameAnswer(first, want) {
					t.Errorf("%s: written into, read behind, or shared", what)
				}
				spoilOps(wholeOps)
				spoilJobs(whole.Jobs)
				spoilLog(whole.Log)
				if !sameAnswer(first, want) {
					t.Errorf("%s: the answer hangs on its argument afterwards", what)
				}
				copy(wholeOps, opsBefore)
				listsShareNothing(t, what, first)
			}
		}
	}
}

// One whose own lists are one memory is answered with lists of their own.
func TestCoordsOfOneMemory(t *testing.T) {
	ops, yes := opsOf("a=1 b=2"), []int{4}
	jobs := []impl.Job{{Tx: 2000, Ops: ops, State: impl.JobAsks, Yes: yes}, {Tx: 2001, Ops: ops, State: impl.JobYes, Yes: yes}, {Tx: 2002, Ops: ops, State: impl.JobAsks, Yes: yes[:0]}}
	c := impl.Coord{N: 8, Life: 2, Next: 3, Jobs: jobs, Log: logOf("2001+"), Sure: 1}
	isCoord(t, "of one memory", true, c)
	for name, act := range coordActs(ops) {
		listsShareNothing(t, name, act(c))
		if !slices.Equal(ops, opsOf("a=1 b=2")) || yes[0] != 4 {
			t.Fatalf("%s: written into", name)
		}
	}
}
