package tests

import (
	"fmt"
	"math/rand"
	"reflect"
	"regexp"
	"slices"
	"strconv"
	"strings"
	"testing"

	"loop.example/g00244/impl"
)

const (
	mostBytes = 4000
	mostLines = 80
)

// rightLines has a line of each kind, as its form is told.
var rightLines = []string{"begin a=1", "hear 0", "drop 0", "double 0", "sure 0", "ask 0", "crash 0 0", "fall 0", "decide", "tell", "round", "get a", "table", "model", "seal", "prove a b", "shard a", "safe"}

// lineForms has the form of each kind of line; a number is 0, or of up to six digits of which the first is another.
var lineForms = map[string]*regexp.Regexp{}

func init() {
	const number, word = ` (0|[1-9][0-9]{0,5})`, ` ([^ ]*)`
	for name, behind := range map[string]string{
		"begin": ` (.*)`, "hear": number, "drop": number, "double": number, "sure": number, "ask": number, "crash": number + number, "fall": number, "decide": "", "tell": "",
		"round": "", "get": word, "table": "", "model": "", "seal": "", "prove": word + word, "shard": word, "safe": "",
	} {
		lineForms[name] = regexp.MustCompile(`(?s)\A` + name + behind + `\z`)
	}
}

// desk is a bench by hand: its world, and the seals that were made.
type desk struct {
	w     impl.World
	seals []impl.Seal
}

func linesByHand(text string) []string {
	lines, from := []string{}, 0
	for i := range len(text) {
		if text[i] == 10 {
			lines, from = append(lines, text[from:i]), i+1
		}
	}
	if from < len(text) {
		lines = append(lines, text[from:])
	}
	return lines
}

func (d *desk) eventByHand(e impl.Event, say func() string) string {
	next, ok := doByHand(d.w, e)
	if !ok {
		return "no"
	}
	d.w = next
	return say()
}

func (d *desk) sealByHand() string {
	prev := shaOf()
	if len(d.seals) > 0 {
		prev = d.seals[len(d.seals)-1].Super
	}
	if !worldByHand(d.w) || !restingByHand(d.w) {
		return "no"
	}
	d.seals = append(d.seals, sealBy(len(d.seals)+1, prev, rootsByHand(d.w)))
	return fmt.Sprint("seal ", len(d.seals))
}

// proveByHand goes by the chapters' words; where the roots are those of the last seal, what comes of them is what is between.
func (d *desk) proveByHand(lo string, hi string) string {
	if len(d.seals) == 0 {
		return "no"
	}
	s := d.seals[len(d.seals)-1]
	pairs, ok := checkByHand(s.Super, lo, hi, bundleByHand(s, mapsByHand(d.w), lo, hi))
	if ok != slices.Equal(s.Roots, rootsByHand(d.w)) || ok && !slices.Equal(pairs, insideByHand(tablesByHand(d.w), lo, hi)) {
		return "by hand no proof is as it should be"
	}
	if !ok {
		return "no"
	}
	return lineByHand(pairs)
}

// lineKind tells a line's name and what stands behind it; no name of a line that has no form.
func lineKind(line string) (string, []string) {
	for name, aForm := range lineForms {
		if m := aForm.FindStringSubmatch(line); m != nil {
			return name, m[1:]
		}
	}
	return "", nil
}

func (d *desk) answerByHand(line string) string {
	name, args := lineKind(line)
	net := func() string { return fmt.Sprint("net ", len(d.w.Net)) }
	number := func(i int) int { n, _ := strconv.Atoi(args[i]); return n }
	end := func(i int) string { return map[bool]string{false: args[i]}[args[i] == "."] }
	switch name {
	case "begin":
		ops, _ := parseByHand(args[0])
		return d.eventByHand(impl.Event{Kind: impl.EvBegin, Ops: ops}, func() string { return fmt.Sprint("tx ", 1000*d.w.C.Life+d.w.C.Next-1) })
	case "hear", "drop", "double", "sure", "ask":
		return d.eventByHand(impl.Event{Kind: slices.Index(eventNames, name), At: number(0)}, net)
	case "crash":
		return d.eventByHand(impl.Event{Kind: impl.EvCrash, At: number(0), N: number(1)}, net)
	case "fall":
		return d.eventByHand(impl.Event{Kind: impl.EvFall, N: number(0)}, net)
	case "decide", "tell":
		return d.eventByHand(impl.Event{Kind: slices.Index(eventNames, name)}, net)
	case "round":
		d.w = roundByHand(d.w)
		return fmt.Sprint("open ", openByHand(d.w))
	case "get":
		val, there := readByHand(d.w, args[0])
		return map[bool]string{true: "yes " + val, false: "no"}[there]
	case "table":
		return lineByHand(tablesByHand(d.w))
	case "model":
		return lineByHand(modelByHand(d.w))
	case "seal":
		return d.sealByHand()
	case "prove":
		return d.proveByHand(end(0), end(1))
	case "shard":
		return fmt.Sprint(shardByFnv(args[0], 3))
	case "safe":
		return fmt.Sprint(safetyByHand(d.w)[0])
	}
	return "what"
}

func benchByHand(text string) (string, impl.World, bool) {
	lines, d, answers := linesByHand(text), desk{w: impl.WorldNew(3)}, ""
	if len(text) > mostBytes || len(lines) > mostLines {
		return "too long\n", impl.World{}, false
	}
	for _, line := range lines {
		if line != "" {
			answers += d.answerByHand(line) + "\n"
		}
	}
	return answers, d.w, true
}

// benches asks what Bench and Built answer of a text, and that what is built is right and safe.
func benches(t *testing.T, what string, text string) (string, impl.World) {
	t.Helper()
	want, wantWorld, wantOk := benchByHand(text)
	got := impl.Bench(text)
	w, ok := impl.Built(text)
	if got != want {
		t.Fatalf("%s: Bench of %q is\n%q\nnot\n%q", what, text, got, want)
	}
	if ok != wantOk || !sameWorld(w, wantWorld) {
		t.Fatalf("%s: Built of %q is %v\n%s\nnot %v\n%s", what, text, ok, strings.Join(worldTold(w), "\n"), wantOk, strings.Join(worldTold(wantWorld), "\n"))
	}
	if ok && (!impl.WorldOk(w) || impl.Safe(w) != 0) {
		t.Fatalf("%s: Built of %q is %v and Safe %d", what, text, impl.WorldOk(w), impl.Safe(w))
	}
	return got, w
}

// says asks what a text is answered with.
func says(t *testing.T, what string, text string, want string) impl.World {
	t.Helper()
	got, w := benches(t, what, text)
	if got != want {
		t.Fatalf("%s: Bench of %q is %q, not %q", what, text, got, want)
	}
	return w
}

// lineByLine plays a script, line by line: ahead of >> stands what is asked, behind it what is answered. What is refused leaves the world as it was.
func lineByLine(t *testing.T, what string, script string) {
	t.Helper()
	text, want, before := "", "", impl.WorldNew(3)
	for _, row := range strings.Split(strings.TrimSpace(script), "\n") {
		line, answer, _ := strings.Cut(strings.TrimSpace(row), " >> ")
		text, want = text+line, want+answer+"\n"
		next := says(t, what, text, want)
		if (answer == "no" || answer == "what") && !sameWorld(next, before) {
			t.Errorf("%s: %q is refused, and the world is\n%s", what, line, strings.Join(worldTold(next), "\n"))
		}
		text, before = text+"\n", next
	}
}

func TestTheBenchOfAnOrder(t *testing.T) {
	lineByLine(t, "an order", `
		safe >> 0
		table >> empty
		model >> empty
		get a >> no
		decide >> net 0
		tell >> net 0
		seal >> seal 1
		begin a=1 c=2 g=3 >> tx 1000
		seal >> no
		hear 0 >> net 2
		hear 0 >> net 1
		hear 0 >> net 0
		sure 0 >> net 1
		sure 1 >> net 2
		sure 2 >> net 3
		hear 2 >> net 2
		hear 1 >> net 1
		seal >> no
		hear 0 >> net 0
		tell >> net 0
		model >> empty
		table >> empty
		decide >> net 0
		model >> a=1 c=2 g=3
		table >> empty
		seal >> no
		tell >> net 3
		hear 0 >> net 2
		table >> g=3
		get g >> yes 3
		get a >> no
		hear 0 >> net 1
		table >> a=1 g=3
		hear 0 >> net 0
		table >> a=1 c=2 g=3
		get a >> yes 1
		get c >> yes 2
		seal >> seal 2
		prove . . >> a=1 c=2 g=3
		prove b . >> c=2 g=3
		prove . b >> a=1
		prove b c >> empty
		safe >> 0`)
	lineByLine(t, "in rounds", `
		begin a=1 b=2 c=3 >> tx 1000
		begin a?2 g=1 >> tx 1001
		round >> open 0
		table >> a=1 b=2 c=3
		model >> a=1 b=2 c=3
		begin a?1 >> tx 1002
		begin a?1 -b d= >> tx 1003
		round >> open 0
		table >> a=1 b=2 c=3
		begin a?1 -b d= >> tx 1004
		drop 0 >> net 0
		round >> open 1
		round >> open 0
		table >> a=1 c=3 d=
		get b >> no
		begin c=4 >> tx 1005
		drop 0 >> net 0
		fall 0 >> net 0
		begin e=5 >> tx 2000
		round >> open 0
		table >> a=1 c=3 d= e=5
		safe >> 0`)
	says(t, "an empty value", "begin a=\nround\nget a\nget b\ntable", "tx 1000\nopen 0\nyes \nno\na=\n")
}

func TestBeginsOfTheBench(t *testing.T) {
	lineByLine(t, "numbers", `
		begin a=1 >> tx 1000
		begin -a >> tx 1001
		begin a? >> tx 1002
		begin a >> no
		begin b=1 a=1 >> no
		begin a=1 a=2 >> no
		begin A=1 >> no
		begin a=1, b=2 >> no
		begin begin a=1 >> no
		begin 0 >> no
		begin . >> no
		begin a=123456789012345678901 >> no
		begin thirteensigns=1 >> no
		begin a=1 b=2 c=3 d=4 e=5 f=6 g=7 h=8 i=9 >> no
		begin a=1 b=2 c=3 d=4 e=5 f=6 g=7 h=8 >> tx 1003
		begin a=12345678901234567890 abcdefghijkl= -b c?7 >> tx 1004
		fall 0 >> net 8
		begin a=1 >> tx 2000
		begin nothing >> no
		begin a=1 >> tx 2001
		fall 3 >> net 10
		fall 3 >> net 10
		begin a=1 >> tx 4000`)
	for _, text := range []string{"begin", "begin\n", " begin a=1", "Begin a=1", "begin\ta=1", "begin\x00a=1", "begin=1", "begina=1", "beginn a=1", "egin a=1", "begin\u00a0a=1"} {
		says(t, "no form", text, "what\n")
	}
	for _, text := range []string{"", " ", "  ", " a=1", "a=1 ", "a=1  b=2", "a=1\r", "a=1\x00", "\xff", "a=\xc3", "a=\u00e4", "a=1\tb=2", strings.Repeat("a", 3994)} {
		says(t, "no orders", "begin "+text, "no\n")
	}
	says(t, "as many as there is room for", strings.Repeat("begin a=1\n", 80), func() string {
		want := ""
		for i := range 80 {
			want += fmt.Sprint("tx ", 1000+i, "\n")
		}
		return want
	}())
	says(t, "lives", strings.Repeat("fall 0\n", 79)+"begin a=1", strings.Repeat("net 0\n", 79)+"tx 80000\n")
}

func TestEventsOfTheBench(t *testing.T) {
	lineByLine(t, "words, at the first, at the last, and one behind", `
		hear 0 >> no
		drop 0 >> no
		double 0 >> no
		begin a=1 c=2 g=3 >> tx 1000
		double 0 >> net 4
		double 3 >> net 5
		double 5 >> no
		double 4 >> net 6
		drop 6 >> no
		drop 5 >> net 5
		drop 0 >> net 4
		drop 4 >> no
		drop 2 >> net 3
		hear 3 >> no
		hear 2 >> net 2
		hear 0 >> net 1
		hear 1 >> no
		hear 0 >> net 0
		hear 0 >> no
		drop 0 >> no
		double 0 >> no`)
	lineByLine(t, "shards, at the first, at the last, and one behind", `
		sure 0 >> net 0
		sure 2 >> net 0
		sure 3 >> no
		ask 0 >> net 0
		ask 2 >> net 0
		ask 3 >> no
		crash 0 0 >> net 0
		crash 2 0 >> net 0
		crash 3 0 >> no
		begin a=1 c=2 g=3 >> tx 1000
		hear 0 >> net 2
		hear 0 >> net 1
		hear 0 >> net 0
		ask 0 >> net 1
		ask 1 >> net 2
		ask 2 >> net 3
		ask 3 >> no
		sure 3 >> no
		sure 2 >> net 4
		sure 2 >> net 4
		sure 0 >> net 5
		sure 1 >> net 6
		sure 1 >> net 6
		crash 3 0 >> no
		crash 3 999999 >> no
		crash 2 0 >> net 6
		ask 2 >> net 7
		sure 999999 >> no
		ask 999999 >> no
		crash 999999 0 >> no
		hear 999999 >> no
		drop 999999 >> no
		double 999999 >> no
		drop 7 >> no
		drop 6 >> net 6`)
	const threeHeld = `
		begin a=1 >> tx 1000
		begin b=1 >> tx 1001
		begin d=1 >> tx 1002
		hear 0 >> net 2
		hear 0 >> net 1
		hear 0 >> net 0`
	lineByLine(t, "what is kept of a shard", threeHeld+`
		ask 1 >> net 3
		crash 1 999999 >> net 3
		ask 1 >> net 6
		begin h=1 >> tx 1003
		hear 6 >> net 6
		crash 1 0 >> net 6
		ask 1 >> net 9
		sure 1 >> net 9`)
	lineByLine(t, "what is kept of some records", threeHeld+`
		crash 1 2 >> net 0
		ask 1 >> net 2
		crash 1 0 >> net 2
		ask 1 >> net 4`)
	lineByLine(t, "none is kept", `
		begin a=1 >> tx 1000
		hear 0 >> net 0
		crash 1 0 >> net 0
		ask 1 >> net 0
		sure 1 >> net 0`)
}

func TestChoicesOfTheBench(t *testing.T) {
	chosen := "begin a=1 >> tx 1000 \n hear 0 >> net 0 \n sure 1 >> net 1 \n hear 0 >> net 0 \n"
	lineByLine(t, "that are not sure", chosen+"tell >> net 0 \n fall 0 >> net 0 \n decide >> net 0 \n model >> empty \n ask 1 >> net 1 \n hear 0 >> net 1 \n hear 0 >> net 0 \n table >> empty \n seal >> seal 1")
	lineByLine(t, "that a fall kept", chosen+"fall 1 >> net 0 \n model >> a=1 \n tell >> net 0 \n ask 1 >> net 1 \n hear 0 >> net 1 \n hear 0 >> net 0 \n table >> a=1 \n seal >> seal 1")
	lineByLine(t, "that a fall kept, with more than there are", chosen+"fall 999999 >> net 0 \n model >> a=1 \n round >> open 0 \n table >> a=1")
	lineByLine(t, "that are sure", chosen+"seal >> no \n decide >> net 0 \n fall 0 >> net 0 \n model >> a=1 \n round >> open 0 \n get a >> yes 1")
	lineByLine(t, "that are told", chosen+"decide >> net 0 \n tell >> net 1 \n tell >> net 2 \n hear 1 >> net 1 \n get a >> yes 1 \n hear 0 >> net 0 \n get a >> yes 1")
	lineByLine(t, "orders that ask are told of again", "begin a=1 c=1 >> tx 1000 \n tell >> net 4 \n drop 0 >> net 3 \n begin g=1 >> tx 1001 \n tell >> net 7 \n decide >> net 7")
}

// What has no room on its way is lost, and the event is done all the same.
func TestTheBenchWithFullWays(t *testing.T) {
	text, want, net := "", "", 0
	for i := range 20 {
		text += "begin a= c= g=\n"
		want += fmt.Sprint("tx ", 1000+i, "\n")
		net += 3
	}
	for range 10 {
		text, net = text+"tell\n", min(net+60, mostNet)
		want += fmt.Sprint("net ", net, "\n")
	}
	text += "double 0\ndouble 399\ndouble 400\nhear 399\ndouble 398\ndouble 0\nbegin b=1\nhear 400\nround\nround"
	want += "net 400\nnet 400\nno\nnet 399\nnet 400\nnet 400\ntx 1020\nno\n"
	got, _ := benches(t, "full", text)
	if !strings.HasPrefix(got, want+"open ") || !strings.HasSuffix(got, "\nopen 0\n") {
		t.Errorf("%q", got)
	}
}

// numberLines has each line that has a number, with a sign in its place.
var numberLines = []string{"hear #", "drop #", "double #", "sure #", "ask #", "crash # 0", "crash 0 #", "fall #", "crash # #"}

func TestNumbersOfTheBench(t *testing.T) {
	const ahead = "begin a=1 c=1 g=1\nbegin b=1\nhear 0\n"
	said := "tx 1000\ntx 1001\nnet 3\n"
	for _, line := range numberLines {
		for _, number := range []string{"0", "1", "2", "3", "9", "10", "99", "100", "101", "4096", "65536", "99999", "100000", "123456", "900000", "999999"} {
			text := strings.ReplaceAll(line, "#", number)
			got, _ := benches(t, line, ahead+text)
			if answer := strings.TrimPrefix(got, said); answer != "no\n" && !strings.HasPrefix(answer, "net ") {
				t.Errorf("%q is answered with %q", text, answer)
			}
		}
		for _, number := range []string{
			"", "00", "01", "02", "000000", "000001", "0000000", "0000001", "0999999", "00999999", "1000000", "1000001", "9999999", "99999999", "4294967296", "4294967297", "9223372036854775807", "9223372036854775808", "18446744073709551616", strings.Repeat("9", 300), strings.Repeat("0", 300),
			"+0", "-0", "+1", "-1", "-2", "--1", "+", "-", "- 1", "1-", "1+", "1+1", "0x0", "0x1", "0b1", "0o1", "1_0", "1_000", "_1", "1e0", "1e3", "1.0", "1.", ".1", ".", "1,0", "0,", "a", "a0", "0a", "1k", "one", "#", "O", "l",
			"\uff11", "\u0661", "\u00b9", "1\u00a0", "\x00", "0\x00", "\x000", "0\r", "\r", "\t0", "0\t", "\xff", "0\xff", "\xb0", "/", ":", "1:", "NaN", "nil", "\u2212" + "1",
		} {
			says(t, line, ahead+strings.ReplaceAll(line, "#", number), said+"what\n")
		}
	}
}

// Each byte stands in each place of each line: ahead, behind, between, and in place of what is there.
func TestEachByteOfALine(t *testing.T) {
	const ahead = "seal\nbegin a=1 c=1 g=1\n"
	taken := seen{}
	for _, line := range append([]string{"begin a? g?1", "prove . .", "fall 10", "crash 2 1"}, rightLines...) {
		for at := range len(line) + 1 {
			for c := range 256 {
				sign := string([]byte{byte(c)})
				lines := []string{line[:at] + sign + line[at:]}
				if at < len(line) {
					lines = append(lines, line[:at]+sign+line[at+1:])
				}
				for _, turned := range lines {
					got, _ := benches(t, line, ahead+turned)
					taken.noteIf("what", strings.HasSuffix(got, "\nwhat\n"))
					taken.noteIf("no", strings.HasSuffix(got, "\nno\n"))
					taken.noteIf("two lines", strings.Count(got, "\n") > 3)
				}
			}
		}
	}
	taken.atLeast(t, 100, "what", "no", "two lines")
}

// Words that lack, and words too many.
func TestHowManyWordsALineHas(t *testing.T) {
	for _, line := range rightLines {
		words := strings.Split(line, " ")
		if name, _ := lineKind(line); name != words[0] {
			t.Errorf("%q has the form of %q", line, name)
		}
		if got, _ := benches(t, "right", line); got == "what\n" {
			t.Errorf("%q is no line", line)
		}
		for n := 1; n < len(words); n++ {
			says(t, "words that lack", strings.Join(words[:n], " "), "what\n")
		}
		for _, text := range []string{" " + line, "  " + line, strings.Join(words[1:], " ") + " " + words[0], "\t" + line, "x " + line, words[0] + line} {
			says(t, "not in its place", text, "what\n")
		}
		if words[0] == "begin" {
			continue
		}
		for _, more := range []string{" ", "  ", " 0", " a", " .", " 0 0", " a b", " a b c", "\t", "\r", " \r", " x y z"} {
			if name := words[0]; (more == "\r" || more == "\t") && (name == "get" || name == "prove" || name == "shard") {
				continue
			}
			says(t, "words too many", line+more, "what\n")
		}
		if len(words) > 1 {
			says(t, "two blanks", strings.Replace(line, " ", "  ", 1), "what\n")
			says(t, "no blank", strings.ReplaceAll(line, " ", ""), "what\n")
			says(t, "another one", strings.ReplaceAll(line, " ", "\t"), "what\n")
			says(t, "a comma", strings.ReplaceAll(line, " ", ","), "what\n")
		}
	}
	for text, want := range map[string]string{
		"begin": "what", "begin ": "no", "begin  ": "no", "hear": "what", "hear ": "what", "hear  ": "what", "crash": "what", "crash ": "what", "crash 0": "what", "crash 0 ": "what", "crash  0": "what", "crash 0 0 ": "what", "crash 0 0 0": "what", "crash 0  0": "what",
		"fall": "what", "fall ": "what", "fall 0 0": "what", "prove": "what", "prove a": "what", "prove a b c": "what", "prove a  b": "what", "prove . . .": "what", "get": "what", "get a b": "what", "get a ": "what", "get  a": "what", "shard": "what", "shard a b": "what", "shard  a": "what",
		"safe 1": "what", "safe ": "what", " safe": "what", " ": "what", "  ": "what", "        ": "what", "table a": "what", "model a": "what", "seal 1": "what", "round 1": "what", "decide 0": "what", "tell 0": "what", "sure": "what", "ask": "what", "drop": "what", "double": "what",
	} {
		says(t, "in so many words", text, want+"\n")
		says(t, "in so many words, between others", "safe\n"+text+"\nshard g\n", "0\n"+want+"\n0\n")
	}
}

// A word that is empty stands between two blanks, or a blank and the end: it is no key that is anywhere, and as an end of what is to be proved the empty one.
func TestEmptyWords(t *testing.T) {
	says(t, "get", "get ", "no\n")
	says(t, "shard", "shard ", fmt.Sprint(shardByFnv("", 3), "\n"))
	said := "tx 1000\nopen 0\nseal 1\n"
	for line, want := range map[string]string{"prove  ": "a=1 c=2", "prove  b": "a=1", "prove b ": "c=2", "prove . ": "a=1 c=2", "prove  .": "a=1 c=2"} {
		says(t, "prove", "begin a=1 c=2\nround\nseal\n"+line, said+want+"\n")
	}
}

func TestWordsThatAreNone(t *testing.T) {
	texts := []string{"fly", "what", "no", "yes", "too long", "help", "quit", "open", "net", "net 0", "tx 1000", "empty", ".", "0", "1", "a=1", "-", "event", "settle", "settle 3", "drain", "resting", "bench", "built", "put a 1", "#", "# safe", "//", "safe;", "safe;safe", "table,model", "\x00", "\x00safe", "safe\x00", "\xff", "\xffsafe", "safe\xff", "\u00e4", "\u0455afe", "s\u0430fe", "\ufeffsafe", "safe\u00a0", "safe\u200b", "\u2028", "\tsafe", "safe\t", "\v", "\r", "safe\r", "round\r", "hear 0\r", "crash 0 0\r", "decide\v"}
	for _, line := range rightLines {
		words := strings.Split(line, " ")
		for _, name := range []string{strings.ToUpper(words[0]), strings.ToUpper(words[0][:1]) + words[0][1:], words[0][1:], words[0][:len(words[0])-1], words[0] + "s", words[0] + words[0], words[0] + ":", "-" + words[0], "/" + words[0], words[0] + "\x00"} {
			texts = append(texts, strings.Join(append([]string{name}, words[1:]...), " "))
		}
		texts = append(texts, strings.ToUpper(line)+"\r")
	}
	for _, text := range texts {
		says(t, "no line", text, "what\n")
		says(t, "no line, twice", "begin a=1\n"+text+"\n"+text+"\nround\n", "tx 1000\nwhat\nwhat\nopen 0\n")
	}
}

func TestLinesAndTheirEnds(t *testing.T) {
	for text, want := range map[string]string{
		"": "", "\n": "", "\n\n": "", "\n\n\n\n\n": "", "safe": "0\n", "safe\n": "0\n", "safe\n\n": "0\n", "safe\n\n\n": "0\n", "\nsafe": "0\n", "\n\n\nsafe\n": "0\n", "safe\nsafe": "0\n0\n", "safe\n\nsafe": "0\n0\n", "safe\n\n\n\nsafe\n\n": "0\n0\n", "\nsafe\n\nfly\n": "0\nwhat\n",
		"safe\r\n": "what\n", "safe\r\nsafe": "what\n0\n", "\r\n": "what\n", "\r\n\r\nsafe": "what\nwhat\n0\n", "safe\rsafe": "what\n", "safe\n\rsafe": "0\nwhat\n", "begin a=1\r\nround\n": "no\nopen 0\n", "get a\r\n": "no\n", "shard a\r\n": fmt.Sprint(shardByFnv("a\r", 3), "\n"), "prove a b\r\n": "no\n",
		" \n": "what\n", "\n \n": "what\n", "safe\n \nsafe": "0\nwhat\n0\n", "safe \nsafe": "what\n0\n", "\\n": "what\n", "safe\\nsafe": "what\n", "safe\vsafe": "what\n", "safe\u2028safe": "what\n", "safe\u0085safe": "what\n", "safe\x00\nsafe": "what\n0\n", "\x00\n\x00": "what\nwhat\n",
		"begin a=1": "tx 1000\n", "begin a=1\n": "tx 1000\n", "begin\na=1": "what\nwhat\n", "begin \na=1": "no\nwhat\n", "begin a=1\n b=2": "tx 1000\nwhat\n", "get\na": "what\nwhat\n", "crash 0\n0": "what\nwhat\n",
	} {
		says(t, "ends", text, want)
	}
	from := rand.New(rand.NewSource(190))
	for range 400 {
		list, d := []string{}, desk{w: impl.WorldNew(3)}
		for range from.Intn(12) {
			list = append(list, lineBy(from, d.w))
			d.answerByHand(list[len(list)-1])
		}
		list = slices.DeleteFunc(list, func(line string) bool { return line == "" })
		plain, w := benches(t, "plain", strings.Join(list, "\n"))
		text := strings.Repeat("\n", from.Intn(3))
		for _, line := range list {
			text += line + strings.Repeat("\n", 1+from.Intn(4))
		}
		if got, spread := benches(t, "with empty lines", text); got != plain || !sameWorld(spread, w) {
			t.Fatalf("%q is answered with %q, without empty lines %q", text, got, plain)
		}
	}
}

func TestGetsTablesAndShards(t *testing.T) {
	lineByLine(t, "keys", `
		begin a=1 abcdefghijkl=12345678901234567890 c=x g=0 >> tx 1000
		get a >> no
		table >> empty
		round >> open 0
		get a >> yes 1
		get g >> yes 0
		get c >> yes x
		get abcdefghijkl >> yes 12345678901234567890
		get abcdefghijk >> no
		get b >> no
		get A >> no
		get . >> no
		get a=1 >> no
		get thirteensigns >> no
		table >> a=1 abcdefghijkl=12345678901234567890 c=x g=0
		begin -a c=y >> tx 1001
		get c >> yes x
		round >> open 0
		get a >> no
		get c >> yes y
		table >> abcdefghijkl=12345678901234567890 c=y g=0
		model >> abcdefghijkl=12345678901234567890 c=y g=0
		begin -abcdefghijkl -c -g >> tx 1002
		round >> open 0
		table >> empty
		model >> empty`)
	for _, key := range []string{"a", "c", "g", "foobar", "0", "zzzzzzzzzzzz", "thirteensigns", ".", "-", "a=1", "A", "\x00", "\xff", "\xff\xfe\x80", "\u00e4", "a\x00b", "a\tb", "\r", strings.Repeat("k", 3994)} {
		says(t, "shard", "shard "+key, fmt.Sprint(shardByFnv(key, 3), "\n"))
		says(t, "get", "get "+key[:min(len(key), 3996)], "no\n")
	}
	for at, keys := range []string{"g k m", "a b d h", "c e f i j l"} {
		for _, key := range strings.Fields(keys) {
			says(t, "of three", "shard "+key, fmt.Sprint(at, "\n"))
		}
	}
	says(t, "as it stands in chapter 1", "shard foobar\nshard b", fmt.Sprint(0xbf9cf968%3, "\n", 1, "\n"))
}

func TestSealsOfTheBench(t *testing.T) {
	lineByLine(t, "resting, and not", `
		seal >> seal 1
		seal >> seal 2
		begin a=1 >> tx 1000
		seal >> no
		drop 0 >> net 0
		seal >> no
		round >> open 1
		seal >> no
		round >> open 0
		seal >> seal 3
		begin a=2 >> tx 1001
		hear 0 >> net 0
		seal >> no
		fall 0 >> net 0
		seal >> no
		ask 1 >> net 1
		hear 0 >> net 1
		seal >> no
		hear 0 >> net 0
		seal >> seal 4
		begin a=3 >> tx 2000
		hear 0 >> net 0
		sure 1 >> net 2
		hear 1 >> net 1
		seal >> no
		decide >> net 1
		seal >> no
		tell >> net 2
		seal >> no
		hear 1 >> net 1
		seal >> seal 5`)
	text, want := "", ""
	for i := range mostLines {
		text, want = text+"seal\n", want+fmt.Sprint("seal ", i+1, "\n")
	}
	says(t, "as many as there is room for", text, want)
	// what is on its way, and words that wait, keep none from a seal: nothing is held, asks, or is not sure
	lineByLine(t, "with words on their way", "begin a=1 >> tx 1000 \n double 0 >> net 2 \n fall 0 >> net 2 \n seal >> seal 1 \n hear 0 >> net 1 \n seal >> no")
}

func TestProofsOfTheBench(t *testing.T) {
	lineByLine(t, "no seal", "prove . . >> no \n prove a b >> no \n begin a=1 >> tx 1000 \n seal >> no \n prove . . >> no \n round >> open 0 \n prove . . >> no \n prove a >> what \n seal >> seal 1 \n prove . . >> a=1")
	lineByLine(t, "nothing", "seal >> seal 1 \n prove . . >> empty \n prove a . >> empty \n prove . a >> empty \n prove b a >> empty \n prove a a >> empty")
	lineByLine(t, "ends", `
		begin a=1 b=2 c=3 e=5 g=7 m=9 >> tx 1000
		round >> open 0
		seal >> seal 1
		prove . . >> a=1 b=2 c=3 e=5 g=7 m=9
		prove a . >> a=1 b=2 c=3 e=5 g=7 m=9
		prove b . >> b=2 c=3 e=5 g=7 m=9
		prove m . >> m=9
		prove n . >> empty
		prove . a >> empty
		prove . b >> a=1
		prove . m >> a=1 b=2 c=3 e=5 g=7
		prove . n >> a=1 b=2 c=3 e=5 g=7 m=9
		prove a b >> a=1
		prove b e >> b=2 c=3
		prove d e >> empty
		prove d f >> e=5
		prove 0 z >> a=1 b=2 c=3 e=5 g=7 m=9
		prove b b >> empty
		prove d d >> empty
		prove m a >> empty
		prove z 0 >> empty
		prove c b >> empty
		prove A Z >> empty
		prove .. . >> a=1 b=2 c=3 e=5 g=7 m=9
		prove . .. >> empty
		prove - = >> empty
		prove thirteensigns . >> empty`)
	lineByLine(t, "maps that turned since", `
		begin a=1 c=3 >> tx 1000
		round >> open 0
		seal >> seal 1
		begin a=2 >> tx 1001
		prove . . >> a=1 c=3
		hear 0 >> net 0
		prove . . >> a=1 c=3
		sure 1 >> net 1
		hear 0 >> net 0
		decide >> net 0
		prove . . >> a=1 c=3
		tell >> net 3
		hear 2 >> net 2
		get a >> yes 2
		prove . . >> no
		prove c . >> no
		prove x y >> no
		prove b a >> no
		begin a=1 >> tx 1002
		round >> open 0
		prove . . >> a=1 c=3
		begin a=2 >> tx 1003
		round >> open 0
		prove . . >> no
		seal >> seal 2
		prove . . >> a=2 c=3
		begin -a -c >> tx 1004
		round >> open 0
		prove . . >> no
		seal >> seal 3
		prove . . >> empty
		crash 1 0 >> net 0
		prove . . >> empty`)
	lineByLine(t, "of the last seal alone", `
		begin a=1 >> tx 1000
		round >> open 0
		seal >> seal 1
		begin a=2 >> tx 1001
		round >> open 0
		seal >> seal 2
		begin a=1 >> tx 1002
		round >> open 0
		prove . . >> no
		begin c=1 >> tx 1003
		seal >> no
		prove . . >> no
		begin a=2 >> tx 1004
		round >> open 0
		prove . . >> no
		begin -c >> tx 1005
		round >> open 0
		prove . . >> a=2`)
	// what is done and not sure is lost by a crash: the map is as it was ahead of it then
	lineByLine(t, "a crash turns a map", `
		begin a=1 >> tx 1000
		hear 0 >> net 0
		sure 1 >> net 1
		hear 0 >> net 0
		decide >> net 0
		seal >> no
		tell >> net 1
		hear 0 >> net 0
		seal >> seal 1
		prove . . >> a=1
		crash 1 0 >> net 0
		table >> empty
		prove . . >> no
		seal >> no
		round >> open 0
		prove . . >> a=1`)
	const ahead, said = "begin a=1 c=3\nround\nseal\n", "tx 1000\nopen 0\nseal 1\n"
	for line, want := range map[string]string{"prove \x00 \xff": "a=1 c=3", "prove \xff \x00": "empty", "prove \xff .": "empty", "prove . \xff": "a=1 c=3", "prove . \x00": "empty", "prove a\x00 c\x00": "c=3", "prove a c\r": "a=1 c=3", "prove a\r c": "empty", "prove \u00e4 \u00e5": "empty", "prove . " + strings.Repeat("b", 3000): "a=1", "prove " + strings.Repeat("b", 3000) + " .": "c=3"} {
		says(t, "ends of other bytes", ahead+line, said+want+"\n")
	}
}

// What is refused, and what is no line, leaves the world and the seals as they were, wherever it stands.
func TestRefusedLinesLeaveTheWorld(t *testing.T) {
	lines := strings.Split("begin a=1 c=2 g=3\nhear 0\nhear 0\nhear 0\nsure 0\nsure 1\nsure 2\nround\nseal\nprove . .\nbegin -a\nround\ntable\nseal\nget c\nprove a d\nbegin e=1\nfall 0\nround\nseal\nsafe", "\n")
	refused := strings.Split("begin|begin |begin a|begin b=1 a=1|hear|hear 400|hear 01|hear -1|hear x|drop 400|drop 0000000|double 400|double +0|sure 3|sure|sure 1000000|ask 3|ask 0 0|crash 3 0|crash 0|crash 0 0 0|crash 0 -1|crash 0 01|fall|fall -1|fall 00|fall 1000000|decide 0|tell x|round 1|get|get a b|get zz|table 0|model 0|seal 0|prove a|prove|prove a b c|shard|safe 1|fly|SAFE|ROUND|Seal| seal|seal | ", "|")
	for at := range len(lines) + 1 {
		ahead, behind := strings.Join(lines[:at], "\n"), strings.Join(lines[at:], "\n")
		plain, w := benches(t, "plain", strings.Join(lines, "\n"))
		_, before := benches(t, "the first ones", ahead)
		for _, line := range refused {
			text := strings.Join([]string{ahead, line}, "\n")
			got, now := benches(t, "refused", text)
			if answer := got[strings.LastIndex("\n"+got[:len(got)-1], "\n"):]; answer != "no\n" && answer != "what\n" || !sameWorld(now, before) {
				t.Errorf("%q is answered with %q behind\n%s", line, answer, ahead)
			}
			got, now = benches(t, "refused, between", text+"\n"+behind)
			list := strings.SplitAfter(got, "\n")
			if without := strings.Join(slices.Delete(list, at, at+1), ""); without != plain || !sameWorld(now, w) {
				t.Errorf("with %q behind %q the others are answered with %q, not %q", line, ahead, without, plain)
			}
		}
	}
}

// Lines that only ask turn nothing.
func TestQuestionsTurnNothing(t *testing.T) {
	lines := strings.Split("begin a=1 c=2 g=3\nhear 0\nhear 0\nsure 0\nseal\nround\nseal\nbegin -a e=1\nround\nhear 0\nround\nfall 0\nseal\nround", "\n")
	for at := range len(lines) + 1 {
		_, before := benches(t, "ahead", strings.Join(lines[:at], "\n"))
		for _, question := range []string{"get a", "get z", "table", "model", "prove . .", "prove a b", "shard a", "safe"} {
			text := strings.Join(append(slices.Clone(lines[:at]), question, question), "\n")
			got, now := benches(t, question, text)
			list := strings.SplitAfter(got, "\n")
			if !sameWorld(now, before) || list[at] != list[at+1] {
				t.Errorf("%q turns the world, or is answered otherwise the second time: %q", question, list[at:])
			}
		}
	}
}

// filled gives a text of so many bytes and lines; it has a line of its own, and empty ones ahead of it.
func filled(bytes int, lines int, end string) string {
	text := strings.Repeat("\n", lines-1) + "shard "
	return text + strings.Repeat("k", bytes-len(text)-len(end)) + end
}

func TestTextsThatAreTooLong(t *testing.T) {
	if impl.MaxBench != mostBytes || impl.MaxLines != mostLines {
		t.Errorf("%d bytes, %d lines", impl.MaxBench, impl.MaxLines)
	}
	tooLong := func(what string, text string) {
		t.Helper()
		got, w := benches(t, what, text)
		if _, ok := impl.Built(text); got != "too long\n" || ok || !sameWorld(w, impl.World{}) || w.C.N != 0 || len(w.Shards) != 0 {
			t.Errorf("%s: %q is answered with %q, and built %v", what, text, got, ok)
		}
	}
	fits := func(what string, text string) {
		t.Helper()
		got, w := benches(t, what, text)
		if _, ok := impl.Built(text); strings.HasPrefix(got, "too long") || !ok || w.C.N != 3 || len(w.Shards) != 3 {
			t.Errorf("%s: %q is answered with %q, and built %v", what, text, got, ok)
		}
	}
	for _, lines := range []int{1, 2, 40, 79, 80} {
		for _, end := range []string{"", "\n"} {
			for _, bytes := range []int{3000, 3998, 3999, 4000} {
				fits(fmt.Sprint(bytes, " bytes, ", lines, " lines"), filled(bytes, lines, end))
			}
			for _, bytes := range []int{4001, 4002, 5000, 8000, 65536} {
				tooLong(fmt.Sprint(bytes, " bytes, ", lines, " lines"), filled(bytes, lines, end))
			}
			tooLong(fmt.Sprint("81 lines, ", lines), filled(2000, 81, end))
			tooLong(fmt.Sprint("82 lines, ", lines), filled(4000, 82, end))
			tooLong(fmt.Sprint("81 lines and 4001 bytes, ", lines), filled(4001, 81, end))
		}
	}
	for _, line := range append([]string{"", "x", " ", "fly", "begin a=1 c=1 g=1"}, rightLines...) {
		for n := 79; n <= 81; n++ {
			with := strings.Repeat(line+"\n", n)
			without := strings.TrimSuffix(with, "\n")
			if n <= mostLines {
				fits(fmt.Sprint(n, " lines"), with)
				fits(fmt.Sprint(n, " lines, no end"), without)
			} else {
				tooLong(fmt.Sprint(n, " lines"), with)
			}
			if line != "" && n > mostLines {
				tooLong(fmt.Sprint(n, " lines, no end"), without)
			}
			if n >= mostLines {
				tooLong("one more", with+"x")
				tooLong("an empty one more", with+"\n")
				tooLong("one ahead", "\n"+with)
			}
		}
	}
	says(t, "80 empty lines", strings.Repeat("\n", 80), "")
	says(t, "81 empty lines", strings.Repeat("\n", 81), "too long\n")
	says(t, "79 empty lines and one", strings.Repeat("\n", 79)+"safe", "0\n")
	says(t, "79 empty lines and one that ends", strings.Repeat("\n", 79)+"safe\n", "0\n")
	says(t, "80 empty lines and one", strings.Repeat("\n", 80)+"safe", "too long\n")
	says(t, "80 lines, the last one empty", strings.Repeat("safe\n", 79)+"\n", strings.Repeat("0\n", 79))
	says(t, "80 lines and an empty one", strings.Repeat("safe\n", 80)+"\n", "too long\n")
	says(t, "4000 bytes of one line", strings.Repeat("x", 4000), "what\n")
	says(t, "4001 bytes of one line", strings.Repeat("x", 4001), "too long\n")
	says(t, "3999 bytes and an end", strings.Repeat("x", 3999)+"\n", "what\n")
	says(t, "4000 bytes and an end", strings.Repeat("x", 4000)+"\n", "too long\n")
	says(t, "bytes, not signs", strings.Repeat("\u00e4", 2000), "what\n")
	says(t, "bytes above 127", strings.Repeat("\u00e4", 2000)+"x", "too long\n")
	says(t, "bytes 0", strings.Repeat("\x00", 4000), "what\n")
	says(t, "4001 bytes 0", strings.Repeat("\x00", 4001), "too long\n")
	says(t, "4001 line ends", strings.Repeat("\n", 4001), "too long\n")
	for _, text := range []string{"begin a=1\n", "begin a=1\nround\nseal\n"} {
		says(t, "lines ahead of what is too long", text+strings.Repeat("x", 4000), "too long\n")
		tooLong("many of them", strings.Repeat(text, 100))
		tooLong("very many of them", strings.Repeat(text, 100000))
	}
}

func TestBuiltOfFewLines(t *testing.T) {
	for _, text := range []string{"", "\n", "safe", "fly\n\n", "get a\ntable\nmodel\nseal\nprove . .\nshard a\nsafe\nhear 0\nbegin", "round", "decide\ntell\nsure 0\nask 2\ncrash 1 5"} {
		w, ok := impl.Built(text)
		if !ok || !sameWorld(w, impl.WorldNew(3)) {
			t.Errorf("Built of %q is %v\n%s", text, ok, strings.Join(worldTold(w), "\n"))
		}
	}
	for text, want := range map[string]string{
		"begin a=1 c=1":                "c 1 1 : 1000 a=1 c=1 / asks : : 0 \n net : hold 1 1000 a=1; hold 2 1000 c=1 \n begun : 1000 a=1 c=1",
		"begin a=1\nhear 0":            "c 1 1 : 1000 a=1 / asks : : 0 \n 1 : 1000 a=1 : 0 : : 1000 a=1 \n outs : vote 1 1000 yes \n begun : 1000 a=1",
		"begin a=1\nhear 0\nsure 1":    "c 1 1 : 1000 a=1 / asks : : 0 \n 1 : 1000 a=1 : 1 : : 1000 a=1 \n net : vote 1 1000 yes \n begun : 1000 a=1",
		"begin a=1\nhear 0\ncrash 1 0": "c 1 1 : 1000 a=1 / asks : : 0 \n begun : 1000 a=1",
		"begin a=1\nhear 0\ncrash 1 1": "c 1 1 : 1000 a=1 / asks : : 0 \n 1 : 1000 a=1 : 1 : : 1000 a=1 \n begun : 1000 a=1",
		"begin a=1\ndouble 0\ndrop 1":  "c 1 1 : 1000 a=1 / asks : : 0 \n net : hold 1 1000 a=1 \n begun : 1000 a=1",
		"begin a=1\nfall 0\nbegin -c":  "c 2 1 : 2000 -c / asks : : 0 \n net : hold 1 1000 a=1; hold 2 2000 -c \n begun : 1000 a=1; 2000 -c",
		"begin a=1\nround":             "c 1 1 : 1000 a=1 / yes 1 : 1000+ : 1 \n 1 : 1000 a=1; 1000+ : 2 : a=1 : \n begun : 1000 a=1",
		"begin a?1\nround\nfall 9":     "c 2 0 : : 1000- : 1 \n 1 : 1000- : 1 : : \n begun : 1000 a?1",
	} {
		w, ok := impl.Built(text)
		if !ok {
			t.Errorf("%q is not built", text)
		}
		becomes(t, text, impl.WorldNew(3), w, want)
	}
}

// lineOf tells an event as a line.
func lineOf(e impl.Event) string {
	switch e.Kind {
	case impl.EvBegin:
		return "begin " + opsTold(e.Ops)
	case impl.EvHear, impl.EvDrop, impl.EvDouble, impl.EvSure, impl.EvAsk:
		return fmt.Sprint(eventNames[e.Kind], " ", e.At)
	case impl.EvCrash:
		return fmt.Sprint("crash ", e.At, " ", e.N)
	case impl.EvFall:
		return fmt.Sprint("fall ", e.N)
	case impl.EvDecide, impl.EvTell:
		return eventNames[e.Kind]
	}
	return "none"
}

// lineBy draws a line: most are of an event of this world, some ask, some are none.
func lineBy(from *rand.Rand, w impl.World) string {
	pick := func(list ...string) string { return list[from.Intn(len(list))] }
	end := func() string { return pick(".", "a", "b", "c", "d", "g", "h", "m", "0", "zz", "..") }
	switch n := from.Intn(60); {
	case n < 4:
		return "round"
	case n < 7:
		return pick("seal", "seal", "seal", "seal 1", "seal ")
	case n < 11:
		return "prove " + end() + " " + end()
	case n < 12:
		return fmt.Sprint("fall ", from.Intn(3))
	case n < 13:
		return fmt.Sprint("crash ", from.Intn(5), " ", from.Intn(3))
	case n < 15:
		return "get " + pick("a", "b", "c", "d", "e", "g", "h", "i", "k", "m", "z", "", "a b")
	case n < 18:
		return pick("table", "model", "safe", "shard "+end(), "table ", "model 1", "safe safe")
	case n < 20:
		return pick("", "", "fly", " ", "hear", "hear x", "begin", "begin ", "crash 0", "prove a", "get", "\x00", "\xff\xfe", "tell\r", "sure 00", "drop 0000001", "Round", "decide decide", "fall +1")
	}
	e := eventBy(from, w, 10+from.Intn(20))
	e.At, e.N = max(e.At, from.Intn(12)-11), max(e.N, from.Intn(12)-11)
	return lineOf(e)
}

// sessionBy draws so many lines behind those of a text.
func sessionBy(from *rand.Rand, text string, n int) []string {
	lines, d := []string{}, desk{w: impl.WorldNew(3)}
	for _, line := range linesByHand(text) {
		d.answerByHand(line)
	}
	for range n {
		line := lineBy(from, d.w)
		d.answerByHand(line)
		lines = append(lines, line)
	}
	return lines
}

// The bench's answers hang on the lines ahead alone.
func TestAnswersHangOnTheLinesAhead(t *testing.T) {
	from := rand.New(rand.NewSource(19))
	m := seen{}
	for run := range 400 {
		n := []int{0, 1, 5, 20, 40, 60, 79}[run%7]
		first := strings.Join(sessionBy(from, "", n), "\n")
		if n > 0 {
			first += "\n"
		}
		said, w := benches(t, "first", first)
		for range 4 {
			list := sessionBy(from, first, from.Intn(mostLines-n+1))
			behind := strings.Join(list, "\n") + map[bool]string{true: "\n"}[from.Intn(2) == 0 && len(list) > 0]
			if len(first)+len(behind) > mostBytes {
				continue
			}
			both, _ := benches(t, "both", first+behind)
			if !strings.HasPrefix(both, said) {
				t.Fatalf("%q is answered with %q, and the first lines of it alone with %q", first+behind, both, said)
			}
			m.noteLines(list, both[len(said):])
			m.noteIf("many lines", n+len(list) > 70)
		}
		if again, now := benches(t, "again", first); again != said || !sameWorld(now, w) {
			t.Fatalf("%q is answered with %q, then with %q", first, said, again)
		}
	}
	for name := range lineForms {
		m.atLeast(t, 200, name)
	}
	m.atLeast(t, 100, "begin: no", "hear: no", "sure: no", "crash: no", "seal: no", "prove: no", "get: no", "what", "many lines", "prove: yes", "get: yes", "seal: yes")
}

// noteLines counts which lines are done and which refused.
func (m seen) noteLines(lines []string, said string) {
	list := linesByHand(said)
	for _, line := range lines {
		if line == "" {
			continue
		}
		name, _ := lineKind(line)
		m[name]++
		m.noteIf("what", list[0] == "what")
		m.noteIf(name+": no", list[0] == "no")
		m.noteIf(name+": yes", list[0] != "no" && list[0] != "empty")
		list = list[1:]
	}
}

// Line by line: each beginning of a text is answered with the beginning of its answers, one for each line that is not empty.
func TestEachLineHasOneAnswer(t *testing.T) {
	from := rand.New(rand.NewSource(191))
	for range 25 {
		lines := sessionBy(from, "", mostLines)
		text := strings.Join(lines, "\n")
		if len(text) > mostBytes {
			continue
		}
		all, _ := benches(t, "all", text)
		answered := 0
		for n, line := range lines {
			if line != "" {
				answered++
			}
			got, _ := benches(t, "beginning", strings.Join(lines[:n+1], "\n"))
			if want := strings.Join(strings.SplitAfter(all, "\n")[:answered], ""); got != want {
				t.Fatalf("the first %d lines of %q are answered with %q, not %q", n+1, text, got, want)
			}
		}
	}
}

// All texts of a few words, blanks and ends.
func TestAllShortTexts(t *testing.T) {
	for _, x := range []struct {
		parts []string
		size  int
	}{
		{[]string{"begin", "hear", "a=1", "0", " ", "\n"}, 6},
		{[]string{"crash 1", "fall", "0", "1", " ", "\n"}, 5},
		{[]string{"begin a=1", "\n", "hear 0", "sure 1", "round", "seal", "prove . .", "crash 1 0"}, 4},
		{[]string{"begin a=1\n", "hear 0\n", "sure 1\n", "decide\n", "tell\n", "seal\n", "prove . .\n", "table\n"}, 5},
		{[]string{"s", "safe", "\n", " ", "\r", "\x00"}, 5},
	} {
		var each func(text string, left int)
		each = func(text string, left int) {
			benches(t, "short", text)
			if left == 0 {
				return
			}
			for _, part := range x.parts {
				each(text+part, left-1)
			}
		}
		each("", x.size)
	}
}

// Whatever it is given, each call answers, and by the words.
func TestAnyTextIsAnswered(t *testing.T) {
	from := rand.New(rand.NewSource(192))
	parts := append([]string{" ", " ", " ", "\n", "\n", "\n", "\n", "a", "b=1", "-c", "d?", "0", "1", "9", "999999", "1000000", ".", "", "\r", "\x00", "\xff", "\u00e4", "begin ", "begin a=1 c=1\n", "crash 1 0\n", "prove . .\n"}, rightLines...)
	m := seen{}
	for range 6000 {
		text := ""
		for range from.Intn(60) {
			text += parts[from.Intn(len(parts))]
		}
		if from.Intn(4) == 0 {
			text = mixedText(from.Intn(5000))
		}
		if from.Intn(4) == 0 {
			b := []byte(text)
			for range from.Intn(5) {
				if len(b) > 0 {
					b[from.Intn(len(b))] = byte(from.Intn(256))
				}
			}
			text = string(b)
		}
		got, _ := benches(t, "any", text)
		m.noteIf("too long", got == "too long\n")
		m.noteIf("several answers", strings.Count(got, "\n") > 5)
		m.noteIf("a number", strings.Contains(got, "tx 1001\n"))
	}
	m.atLeast(t, 40, "too long", "several answers", "a number")
}

func TestCallsOfTheBenchDontTouch(t *testing.T) {
	from := rand.New(rand.NewSource(193))
	texts := []string{"", "fly", strings.Repeat("\n", 81), "begin a=1 c=1 g=1", "begin a=1\nround\nseal\nprove . .\ntable\nget a"}
	for range 40 {
		texts = append(texts, strings.Join(sessionBy(from, "", 60), "\n"))
	}
	type answer struct {
		said string
		w    impl.World
		ok   bool
	}
	list := []answer{}
	for _, s := range texts {
		text, turn := turning(s)
		first := impl.Bench(text)
		w, ok := impl.Built(text)
		again, _ := impl.Built(text)
		second := impl.Bench(text)
		if text != s || second != first {
			t.Errorf("%q was written into, or is answered with %q, then %q", s, first, second)
		}
		shareNothing(t, s, w, again)
		list = append(list, answer{first, w, ok})
		before := wholeOf(w)
		scatter(from, reflect.ValueOf(&again).Elem())
		spoilWorld(impl.Built(text))
		turn()
		if !reflect.DeepEqual(wholeOf(w), before) {
			t.Errorf("%q: the world hangs on its text, or on another answer", s)
		}
	}
	values := []any{}
	for i, s := range texts {
		want, w, ok := benchByHand(s)
		if x := list[i]; x.said != want || !sameWorld(x.w, w) || x.ok != ok {
			t.Errorf("%q: the answer is not as it was: %q", s, x.said)
		}
		values = append(values, list[i].w)
	}
	shareNothing(t, "all worlds", values...)
	for range 300 {
		benches(t, "between others", texts[from.Intn(len(texts))])
	}
}

// spoilWorld writes into all lists of a world.
func spoilWorld(w impl.World, _ bool) {
	spoilJobs(w.C.Jobs)
	spoilLog(w.C.Log)
	spoilWords(w.Net)
	spoilWords(w.Outs)
	for _, s := range w.Shards {
		spoilShard(s)
	}
	for _, order := range w.Begun {
		spoilOps(order.Ops)
	}
}
