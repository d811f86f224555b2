package tests

import (
	"math"
	"math/rand"
	"os"
	"os/exec"
	"path/filepath"
	"slices"
	"strconv"
	"strings"
	"testing"

	"loop.example/g00244/impl"
)

// hashedByRows gives what is hashed from p to the root by the rows of the tree: who has no neighbour in a row has no step there.
func hashedByRows(p impl.Pair, i int, n int, path []string) []string {
	hashed := []string{"\x00" + string(impl.PutText(impl.PutText(nil, p.Key), p.Val))}
	inner := impl.Digest([]byte(hashed[0]))
	for size := 1; size < n; size *= 2 {
		neighbour := (i/size ^ 1) * size
		if neighbour >= n {
			continue
		}
		node := "\x01" + inner + path[0]
		if neighbour < i {
			node = "\x01" + path[0] + inner
		}
		path = path[1:]
		hashed = append(hashed, node)
		inner = impl.Digest([]byte(node))
	}
	return append(hashed, "\x02"+string([]byte{byte(n)})+inner)
}

// stepsOf: how many steps a path must have.
func stepsOf(i int, n int) int {
	steps := 0
	for size := 1; size < n; size *= 2 {
		if (i/size^1)*size < n {
			steps++
		}
	}
	return steps
}

func lastBySteps(l []impl.Pair) string {
	if len(l) == 0 {
		return "\x02\x00" + impl.Digest(nil)
	}
	hashed := hashedByRows(l[0], 0, len(l), impl.PathOf(l, 0))
	return hashed[len(hashed)-1]
}

// partByHand tells the step, too: 0 is the leaf's.
func partByHand(l []impl.Pair, p impl.Pair, i int, n int, path []string) (a string, b string, clash bool, step int) {
	told := hashedByRows(p, i, n, path)
	if len(l) == n {
		held := hashedByRows(l[i], i, n, impl.PathOf(l, i))
		for step := range told {
			if told[step] != held[step] && impl.Digest([]byte(told[step])) == impl.Digest([]byte(held[step])) {
				return told[step], held[step], true, step
			}
		}
	}
	a, b = told[len(told)-1], lastBySteps(l)
	return a, b, a != b && impl.Digest([]byte(a)) == impl.Digest([]byte(b)), len(told) - 1
}

// parts asks for what partByHand tells, and that nothing is called a clash that is none, and gives whether it is one, and at which step.
func parts(t *testing.T, l []impl.Pair, p impl.Pair, i int, n int, path []string) (bool, int) {
	t.Helper()
	a, b, clash := impl.PartAt(l, p, i, n, path)
	wantA, wantB, wantClash, step := partByHand(l, p, i, n, path)
	if a != wantA || b != wantB || clash != wantClash {
		t.Errorf("%d pairs, %q as %d of %d by %q: %q, %q, %v", len(l), p, i, n, path, a, b, clash)
	}
	if clash != impl.IsClash(a, b, 32) {
		t.Errorf("%d pairs, %q as %d of %d by %q: told to be a clash: %v", len(l), p, i, n, path, clash)
	}
	return clash, step
}

// partsAtTheRoots asks, without a digest that could be the same by chance, for what is hashed last.
func partsAtTheRoots(t *testing.T, l []impl.Pair, p impl.Pair, i int, n int, path []string) {
	t.Helper()
	if clash, _ := parts(t, l, p, i, n, path); clash {
		t.Errorf("%d pairs, %q as %d of %d: a clash", len(l), p, i, n)
	}
	told := hashedByRows(p, i, n, path)
	a, b, _ := impl.PartAt(l, p, i, n, path)
	if a != told[len(told)-1] || b != "\x02"+string([]byte{byte(len(l))})+innerBySha(l) {
		t.Errorf("%d pairs, %q as %d of %d: %q, %q are not those of the roots", len(l), p, i, n, a, b)
	}
}

func hasNoPart(t *testing.T, what string, l []impl.Pair, p impl.Pair, i int, n int, path []string) {
	t.Helper()
	if a, b, clash := impl.PartAt(l, p, i, n, path); a != "" || b != "" || clash {
		t.Errorf("%s: %d pairs, %q as %d of %d by %d steps: %q, %q, %v", what, len(l), p, i, n, len(path), a, b, clash)
	}
}

// alikeBytes: how many first bytes of both digests are the same.
func alikeBytes(a string, b string) int {
	first, other := shaOf(a), shaOf(b)
	for i := range first {
		if first[i] != other[i] {
			return i
		}
	}
	return len(first)
}

// clashesUpTo asks of two texts for all k.
func clashesUpTo(t *testing.T, a string, b string) {
	t.Helper()
	alike := alikeBytes(a, b)
	for k := -2; k <= 35; k++ {
		want := a != b && k >= 0 && k <= alike
		if impl.IsClash(a, b, k) != want || impl.IsClash(b, a, k) != want {
			t.Errorf("%.20q and %.20q, of which %d bytes are alike, by %d: %v", a, b, alike, k, !want)
		}
	}
	for _, k := range []int{math.MinInt, -32, 64, 256, 1 << 32, math.MaxInt} {
		if impl.IsClash(a, b, k) {
			t.Errorf("%.20q and %.20q, by %d", a, b, k)
		}
	}
}

func TestTextsWhoseDigestsBeginAlike(t *testing.T) {
	found := [5]int{}
	seen := map[string]string{}
	for i := 0; found[1] < 20 || found[2] < 20 || found[3] < 3 || found[4] < 1; i++ {
		text := strconv.Itoa(i)
		digest := shaOf(text)
		for size := 1; size <= 4; size++ {
			other, there := seen[digest[:size]]
			seen[digest[:size]] = text
			if !there || alikeBytes(text, other) != size || found[size] >= 20 {
				continue
			}
			found[size]++
			clashesUpTo(t, text, other)
			if !impl.IsClash(text, other, size) || impl.IsClash(text, other, size+1) {
				t.Errorf("%q and %q have %d bytes alike", text, other, size)
			}
		}
	}
}

func TestTextsThatAreUnlike(t *testing.T) {
	texts := append(listOf(12), "", "\x00", "\x00\x00", "a", "A", "b", "ab", "a ", shaOf(), shaOf("a"), strings.Repeat("a", 55), strings.Repeat("a", 56), strings.Repeat("a", 64), mixedText(200), mixedText(201))
	for _, a := range texts {
		for _, b := range texts {
			clashesUpTo(t, a, b)
		}
	}
}

func TestTextsThatAreTheSameAreNoClash(t *testing.T) {
	for _, text := range []string{"", "a", "\x00", "\xff\xfe", shaOf("a"), mixedText(300)} {
		for k := -1; k <= 33; k++ {
			if impl.IsClash(text, string([]byte(text)), k) {
				t.Errorf("%.20q and itself, by %d", text, k)
			}
		}
	}
	if !impl.IsClash("", "a", 0) || impl.IsClash("", "a", 32) || impl.IsClash("", "a", 33) || impl.IsClash("", "a", -1) {
		t.Error("the empty text")
	}
}

// Bytes that are alike behind the first k do not count.
func TestOnlyTheFirstBytesCount(t *testing.T) {
	found := 0
	for i := 0; found < 10; i++ {
		a, b := strconv.Itoa(i), strconv.Itoa(i+1)
		first, other := shaOf(a), shaOf(b)
		if first[31] == other[31] && first[0] != other[0] {
			found++
			if impl.IsClash(a, b, 1) || impl.IsClash(a, b, 31) || !impl.IsClash(a, b, 0) {
				t.Errorf("%q and %q", a, b)
			}
		}
	}
}

func TestAPairWithItsPathHasNoClash(t *testing.T) {
	for n := 1; n <= impl.MaxPairs; n++ {
		list := manyPairs(n)
		top := "\x02" + string([]byte{byte(n)}) + innerBySha(list)
		for i, p := range list {
			a, b, clash := impl.PartAt(list, p, i, n, pathBySha(list, i))
			if a != top || b != top || clash {
				t.Errorf("%d of %d: %q, %q, %v", i, n, a, b, clash)
			}
		}
	}
}

func TestAnotherPairAtThePlace(t *testing.T) {
	for _, n := range treeSizes {
		list := manyPairs(n)
		for _, i := range []int{0, n / 2, n - 1} {
			path := pathBySha(list, i)
			p := list[i]
			for _, other := range []impl.Pair{{}, {Key: p.Key, Val: p.Val + "x"}, {Key: p.Key}, {Key: p.Key + "x", Val: p.Val}, {Key: p.Val, Val: p.Key}, {Key: "A", Val: strings.Repeat("v", 300)}, list[(i+1)%n], list[0]} {
				partsAtTheRoots(t, list, other, i, n, path)
			}
		}
	}
	list := pairsOf("a=1 b=2")
	other := impl.Pair{Key: "a", Val: "9"}
	a, b, clash := impl.PartAt(list, other, 0, 2, []string{leafBySha(list[1])})
	if clash || a != "\x02\x02"+shaOf("\x01", leafBySha(other), leafBySha(list[1])) || b != "\x02\x02"+shaOf("\x01", leafBySha(list[0]), leafBySha(list[1])) {
		t.Errorf("two pairs: %q, %q, %v", a, b, clash)
	}
	a, b, clash = impl.PartAt(list, other, 1, 2, []string{leafBySha(list[0])})
	if clash || a != "\x02\x02"+shaOf("\x01", leafBySha(list[0]), leafBySha(other)) || b != "\x02\x02"+innerBySha(list) {
		t.Errorf("the second one of two pairs: %q, %q, %v", a, b, clash)
	}
}

func TestAnotherPlaceOfThePair(t *testing.T) {
	for _, n := range treeSizes {
		list := manyPairs(n)
		for i, p := range list {
			for _, place := range []int{0, i - 1, i + 1, i ^ 1, n - 1} {
				if place < 0 || place >= n {
					continue
				}
				if path := pathBySha(list, i); len(path) == stepsOf(place, n) {
					partsAtTheRoots(t, list, p, place, n, path)
				} else {
					hasNoPart(t, "a path of another place", list, p, place, n, path)
				}
				partsAtTheRoots(t, list, p, place, n, pathBySha(list, place))
			}
		}
	}
}

func TestAnotherStepOfThePath(t *testing.T) {
	for _, n := range treeSizes {
		list := manyPairs(n)
		for _, i := range []int{0, n / 2, n - 1} {
			path := pathBySha(list, i)
			for at := range path {
				for _, step := range []string{"", "\x00", turnedText(path[at], at), path[at][:31], path[at] + "\x00", path[at] + path[at], shaOf(), "no digest", mixedText(300)} {
					other := slices.Clone(path)
					other[at] = step
					partsAtTheRoots(t, list, list[i], i, n, other)
					partsAtTheRoots(t, list, impl.Pair{Key: "other"}, i, n, other)
				}
			}
			partsAtTheRoots(t, list, list[i], i, n, make([]string, len(path)))
			slices.Reverse(path)
			partsAtTheRoots(t, list, list[i], i, n, path)
		}
	}
}

func TestAnotherNumberOfPairs(t *testing.T) {
	for _, size := range []int{0, 1, 2, 3, 4, 5, 8, 9, 33, 59, impl.MaxPairs} {
		list := manyPairs(size)
		for n := 1; n <= impl.MaxPairs; n++ {
			for _, i := range []int{0, n / 2, n - 1} {
				p := impl.Pair{Key: "k", Val: "v"}
				if i < size {
					p = list[i]
				}
				partsAtTheRoots(t, list, p, i, n, pathBySha(manyPairs(n), i))
				partsAtTheRoots(t, list, p, i, n, make([]string, stepsOf(i, n)))
			}
		}
	}
	p := impl.Pair{Key: "a", Val: "1"}
	a, b, clash := impl.PartAt(nil, p, 0, 1, nil)
	if a != "\x02\x01"+leafBySha(p) || b != "\x02\x00"+shaOf() || clash {
		t.Errorf("no pairs: %q, %q, %v", a, b, clash)
	}
}

func TestPartsOfNoPlaceOrNoNumber(t *testing.T) {
	for _, size := range []int{0, 1, 2, 5, impl.MaxPairs} {
		list := manyPairs(size)
		p := impl.Pair{Key: "k00a", Val: "1"}
		for _, n := range []int{math.MinInt, -60, -1, 0, 61, 62, 64, 128, math.MaxInt} {
			for _, i := range []int{math.MinInt, -1, 0, 1, n - 1, n, math.MaxInt} {
				for steps := range 8 {
					hasNoPart(t, "no such number", list, p, i, n, make([]string, steps))
				}
			}
		}
		for _, n := range treeSizes {
			for _, i := range []int{math.MinInt, -60, -1, n, n + 1, 64, math.MaxInt} {
				for steps := range 8 {
					hasNoPart(t, "no such place", list, p, i, n, make([]string, steps))
				}
			}
		}
	}
	many := manyPairs(61)
	for i, p := range many {
		hasNoPart(t, "one more than MaxPairs", many, p, i, 61, pathBySha(many, i))
		hasNoPart(t, "one more than MaxPairs", many[:60], p, i, 61, pathBySha(many, i))
	}
}

func TestPartsOfPathsThatDoNotFit(t *testing.T) {
	for n := 1; n <= impl.MaxPairs; n++ {
		list := manyPairs(n)
		for i, p := range list {
			path := pathBySha(list, i)
			for _, other := range [][]string{append(slices.Clone(path), shaOf()), append([]string{""}, path...), append(slices.Clone(path), "", "")} {
				hasNoPart(t, "a step more", list, p, i, n, other)
				hasNoPart(t, "a step more, another number", pairsOf("a=1"), p, i, max(n, 2), append(other, "", ""))
			}
			if len(path) > 0 {
				hasNoPart(t, "a step less", list, p, i, n, path[1:])
				hasNoPart(t, "a step less", list, p, i, n, path[:len(path)-1])
				hasNoPart(t, "a step less, another number", nil, p, i, n, path[1:])
				hasNoPart(t, "no step", list, p, i, n, nil)
			}
		}
	}
}

func TestPartsOfWrongPairs(t *testing.T) {
	lists := [][]impl.Pair{manyPairs(61), manyPairs(99)}
	for _, text := range []string{
		"a=1 a=2", "a=1 a=1", "b=1 a=2", "a=1 c=2 b=3", "=1", "=1 a=2", "A=1 a=2", "a=1 {=2", "thirteensigns=1", "a=123456789012345678901", "a=1 b=123456789012345678901",
	} {
		lists = append(lists, pairsOf(text))
	}
	for _, list := range lists {
		for _, n := range []int{1, 2, 3, 60, len(list)} {
			for _, i := range []int{0, 1, n - 1} {
				hasNoPart(t, "wrong pairs", list, impl.Pair{Key: "a", Val: "1"}, i, n, make([]string, stepsOf(i, n)))
				if n == len(list) && i < n {
					hasNoPart(t, "wrong pairs", list, list[i], i, n, pathBySha(list, i))
				}
			}
		}
	}
	edge := pairsOf("abcdefghijkl=12345678901234567890 b=")
	partsAtTheRoots(t, edge, edge[0], 0, 2, pathBySha(edge, 0))
	partsAtTheRoots(t, edge, impl.Pair{Key: "NO KEY"}, 1, 2, pathBySha(edge, 1))
}

func TestPartsLeaveTheirArguments(t *testing.T) {
	for _, size := range []int{0, 1, 2, 5, 33, impl.MaxPairs} {
		list := manyPairs(size)
		given, whole := pairsWithRoom(list)
		before := slices.Clone(whole)
		for _, n := range []int{1, 2, 5, 33, impl.MaxPairs} {
			for _, i := range []int{0, n / 2, n - 1} {
				path := pathBySha(manyPairs(n), i)
				room := append(slices.Clone(path), "room", shaOf(), "")
				kept := slices.Clone(room)
				p := impl.Pair{Key: "k00a", Val: "other"}
				a, b, clash := impl.PartAt(given, p, i, n, room[:len(path)])
				wantA, wantB, wantClash := impl.PartAt(list, p, i, n, path)
				if a != wantA || b != wantB || clash != wantClash {
					t.Errorf("%d pairs, %d of %d: what lies behind them counts", size, i, n)
				}
				hasNoPart(t, "a step more", given, p, i, n, room[:len(path)+1])
				if !slices.Equal(room, kept) || !slices.Equal(whole, before) {
					t.Errorf("%d pairs, %d of %d: an argument was written into", size, i, n)
				}
			}
		}
	}
}

// No two texts are known whose digests are wholly the same. So the tests TestWeak.. are run in a copy of the program whose Digest has four answers alone: there clashes are found at each step.
const weakDigest = `package impl

func Digest(b []byte) string {
	first := wholeDigest(b)[0] % 4
	weak := make([]byte, digestSize)
	for i := range weak {
		weak[i] = first
	}
	return string(weak)
}
`

func TestClashesOfAWeakDigest(t *testing.T) {
	dir := t.TempDir()
	turned := 0
	for _, pattern := range []string{"../go.mod", "../impl/*.go", "../tests/*_test.go"} {
		names, err := filepath.Glob(pattern)
		if err != nil || len(names) == 0 {
			t.Fatal(pattern, err)
		}
		for _, name := range names {
			text, err := os.ReadFile(name)
			if err != nil {
				t.Fatal(err)
			}
			weak := strings.Replace(string(text), "\nfunc Digest(", "\nfunc wholeDigest(", 1)
			if strings.Contains(name, "impl") && weak != string(text) {
				turned++
			} else {
				weak = string(text)
			}
			writeCopy(t, filepath.Join(dir, strings.TrimPrefix(name, "../")), weak)
		}
	}
	if turned != 1 {
		t.Fatalf("Digest stands in %d files", turned)
	}
	writeCopy(t, filepath.Join(dir, "impl", "weak.go"), weakDigest)
	run := exec.Command("go", "test", "-count=1", "-v", "-run", "^TestWeak", "./tests")
	run.Dir = dir
	out, err := run.CombinedOutput()
	if err != nil || strings.Count(string(out), "--- PASS: TestWeak") != 4 {
		t.Errorf("%v\n%s", err, out)
	}
}

func writeCopy(t *testing.T, name string, text string) {
	t.Helper()
	if err := os.MkdirAll(filepath.Dir(name), 0o755); err != nil {
		t.Fatal(err)
	}
	if err := os.WriteFile(name, []byte(text), 0o644); err != nil {
		t.Fatal(err)
	}
}

func weakAlone(t *testing.T) *rand.Rand {
	t.Helper()
	if impl.Digest(nil) == shaOf() {
		t.Skip("asks for the weak digest of TestClashesOfAWeakDigest")
	}
	return rand.New(rand.NewSource(6))
}

// weakSteps: as many steps as asked for, mostly digests that are right in form.
func weakSteps(from *rand.Rand, steps int) []string {
	path := []string{}
	for range steps {
		step := strings.Repeat(string([]byte{byte(from.Intn(4))}), 32)
		if from.Intn(10) == 0 {
			step = []string{"", "\x00", "no digest", step + step}[from.Intn(4)]
		}
		path = append(path, step)
	}
	return path
}

// weakPairs: as many as asked for, with few keys and values, so that one list often has what another has.
func weakPairs(from *rand.Rand, n int) []impl.Pair {
	list := []impl.Pair{}
	for len(list) < n {
		list = impl.PutKey(list, "k"+strconv.Itoa(10+from.Intn(n+3)), strconv.Itoa(from.Intn(3)))
	}
	return list
}

// weakPath: mostly the one of the i-th, as it is or with another step.
func weakPath(from *rand.Rand, l []impl.Pair, i int, n int) []string {
	path := weakSteps(from, stepsOf(i, n))
	if len(l) == n && from.Intn(3) > 0 {
		own := impl.PathOf(l, i)
		if len(own) > 0 && from.Intn(2) == 0 {
			at := from.Intn(len(own))
			own[at] = path[at]
		}
		return own
	}
	return path
}

func weakPair(from *rand.Rand, l []impl.Pair, i int) impl.Pair {
	if i < len(l) && from.Intn(3) == 0 {
		return l[i]
	}
	return weakPairs(from, 1)[0]
}

func TestWeakPartsAreTheFirstOnes(t *testing.T) {
	from := weakAlone(t)
	at := map[int]int{}
	roots, others := 0, 0
	for range 20000 {
		list := weakPairs(from, from.Intn(18))
		n := 1 + from.Intn(18)
		if from.Intn(3) > 0 {
			n = max(len(list), 1)
		}
		i := from.Intn(n)
		path := weakPath(from, list, i, n)
		clash, step := parts(t, list, weakPair(from, list, i), i, n, path)
		switch {
		case !clash:
			others++
		case step == len(path)+1:
			roots++
		default:
			at[step]++
		}
	}
	for step := range 5 {
		if at[step] < 20 {
			t.Errorf("%d clashes at step %d", at[step], step)
		}
	}
	if roots < 20 || others < 20 {
		t.Errorf("%d clashes of the roots, %d times none", roots, others)
	}
}

// A pair is taken by a root of others, or by another path, only where PartAt tells a clash.
func TestWeakPairsTakenWhereTheyAreNot(t *testing.T) {
	from := weakAlone(t)
	lies := 0
	for range 20000 {
		list := weakPairs(from, from.Intn(10))
		n := 1 + from.Intn(10)
		if from.Intn(2) > 0 {
			n = max(len(list), 1)
		}
		i := from.Intn(n)
		path, p := weakPath(from, list, i, n), weakPair(from, list, i)
		if !impl.CheckPath(p, i, n, path, impl.RootOf(list)) {
			continue
		}
		a, b, clash := impl.PartAt(list, p, i, n, path)
		if n == len(list) && p == list[i] && slices.Equal(path, impl.PathOf(list, i)) {
			if clash {
				t.Errorf("%q is %d of %d, and a clash is told", p, i, n)
			}
			continue
		}
		lies++
		if !clash || !impl.IsClash(a, b, 32) {
			t.Errorf("%v: %q is taken as %d of %d by %q, and no clash is told: %q, %q", list, p, i, n, path, a, b)
		}
	}
	if lies < 1000 {
		t.Errorf("%d lies", lies)
	}
}

// What is checked is all that is between, or PartAt tells a clash of an item; where no pairs are told to be, of a pair that is there.
func TestWeakProofsThatLeaveOut(t *testing.T) {
	from := weakAlone(t)
	lies, none := 0, 0
	for range 50000 {
		list := weakPairs(from, from.Intn(6))
		lo, hi := "k"+strconv.Itoa(10+from.Intn(8)), "k"+strconv.Itoa(10+from.Intn(8))
		f := weakProof(from, list)
		got, ok := impl.CheckBetween(impl.RootOf(list), lo, hi, f)
		if !ok || slices.Equal(got, impl.Between(list, lo, hi)) {
			continue
		}
		lies++
		if f.N == 0 {
			none++
		}
		if !clashTold(list, f) {
			t.Errorf("%v from %q up to %q are told to be %v by %v, and no clash is told", list, lo, hi, got, f)
		}
	}
	if lies < 1000 || none < 20 {
		t.Errorf("%d lies, %d of them that there is nothing", lies, none)
	}
}

// clashTold: whether PartAt tells a clash of an item of f; of an f without pairs, one of the first pair of l, if it has any.
func clashTold(l []impl.Pair, f impl.Proof) bool {
	if f.N == 0 && len(l) > 0 {
		_, _, clash := impl.PartAt(nil, l[0], 0, len(l), impl.PathOf(l, 0))
		return clash
	}
	for at, item := range f.Items {
		if _, _, clash := impl.PartAt(l, item.P, f.From+at, f.N, item.Path); clash {
			return true
		}
	}
	return false
}

func weakProof(from *rand.Rand, l []impl.Pair) impl.Proof {
	f := impl.Proof{N: from.Intn(6)}
	if from.Intn(2) > 0 {
		f.N = len(l)
	}
	if f.N == 0 {
		return f
	}
	f.From = from.Intn(f.N)
	for i := f.From; i < f.N; i++ {
		f.Items = append(f.Items, impl.Item{P: weakPair(from, l, i), Path: weakPath(from, l, i, f.N)})
		if from.Intn(4) == 0 {
			break
		}
	}
	return f
}
