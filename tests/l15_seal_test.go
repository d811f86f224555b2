package tests

import (
	"encoding/binary"
	"fmt"
	"math"
	"math/rand"
	"reflect"
	"slices"
	"strings"
	"testing"

	"loop.example/g00244/impl"
)

const mostSeals = 1000

func numByHand(n int) string {
	return string(binary.AppendUvarint(nil, uint64(max(0, min(n, 1000000000)))))
}

func superBySha(no int, prev string, roots []string) string {
	parts := []string{"\x03", numByHand(no), numByHand(len(prev)), prev, numByHand(len(roots))}
	for _, root := range roots {
		parts = append(parts, numByHand(len(root)), root)
	}
	return shaOf(parts...)
}

// sealBy has the Super that the others make, whatever they are.
func sealBy(no int, prev string, roots []string) impl.Seal {
	return impl.Seal{No: no, Prev: prev, Super: superBySha(no, prev, roots), Roots: roots}
}

// someRoots gives n texts of 32 bytes, others for each of.
func someRoots(n int, of string) []string {
	list := []string{}
	for i := range n {
		list = append(list, shaOf("root", of, fmt.Sprint(i)))
	}
	return list
}

// someChain gives n seals, with 1 to 8 roots each.
func someChain(n int) []impl.Seal {
	list, prev := []impl.Seal{}, shaOf()
	for i := range n {
		list = append(list, sealBy(i+1, prev, someRoots(1+i%8, fmt.Sprint(i/2))))
		prev = list[i].Super
	}
	return list
}

func sameSeal(a impl.Seal, b impl.Seal) bool {
	return a.No == b.No && a.Prev == b.Prev && a.Super == b.Super && slices.Equal(a.Roots, b.Roots)
}

func copySeals(l []impl.Seal) []impl.Seal {
	out := []impl.Seal{}
	for _, s := range l {
		s.Roots = slices.Clone(s.Roots)
		out = append(out, s)
	}
	return out
}

// bentChain is a chain with one thing changed.
func bentChain(l []impl.Seal, change func(l []impl.Seal) []impl.Seal) []impl.Seal {
	return change(copySeals(l))
}

func sealByHand(s impl.Seal) bool {
	sizes := map[int]int{len(s.Prev): 1}
	for _, root := range s.Roots {
		sizes[len(root)]++
	}
	if sizes[32] != 1+len(s.Roots) || len(s.Roots) == 0 || len(s.Roots) > 8 {
		return false
	}
	switch {
	case s.No < 1 || s.No > mostSeals:
		return false
	case s.No == 1 && s.Prev != shaOf():
		return false
	}
	return s.Super == superBySha(s.No, s.Prev, s.Roots)
}

// chainByHand goes from the end: each must be behind the one ahead.
func chainByHand(l []impl.Seal) bool {
	for i := len(l) - 1; i >= 0; i-- {
		ahead := shaOf()
		if i > 0 {
			ahead = l[i-1].Super
		}
		if !sealByHand(l[i]) || l[i].No != i+1 || l[i].Prev != ahead {
			return false
		}
	}
	return len(l) <= mostSeals
}

func rootsByHand(w impl.World) []string {
	list := []string{}
	for _, s := range w.Shards {
		list = append(list, rootBySha(s.Map))
	}
	return list
}

func isSeal(t *testing.T, what string, want bool, s impl.Seal) {
	t.Helper()
	if got := impl.SealOk(s); got != want || sealByHand(s) != want {
		t.Errorf("%s: SealOk is %v, by hand %v, of %d %x %x %x", what, got, sealByHand(s), s.No, s.Prev, s.Super, s.Roots)
	}
}

func isChain(t *testing.T, what string, want bool, l []impl.Seal) {
	t.Helper()
	if got := impl.ChainOk(l); got != want || chainByHand(l) != want {
		t.Errorf("%s: ChainOk of %d seals is %v, by hand %v", what, len(l), got, chainByHand(l))
	}
}

// seals asks that there is a seal of this world behind these, and that each part of it is as told.
func seals(t *testing.T, what string, l []impl.Seal, w impl.World) impl.Seal {
	t.Helper()
	prev := shaOf()
	if len(l) > 0 {
		prev = l[len(l)-1].Super
	}
	s, ok := impl.NextSeal(l, w)
	if want := sealBy(len(l)+1, prev, rootsByHand(w)); !ok || !sameSeal(s, want) {
		t.Fatalf("%s: the seal behind %d is %v, %d %x %x %x, not %d %x %x %x, of\n%s", what, len(l), ok, s.No, s.Prev, s.Super, s.Roots, want.No, want.Prev, want.Super, want.Roots, strings.Join(worldTold(w), "\n"))
	}
	isSeal(t, what, true, s)
	for i := range w.Shards {
		if s.Roots[i] != impl.RootOf(w.Shards[i].Map) {
			t.Errorf("%s: root %d is %x", what, i, s.Roots[i])
		}
	}
	return s
}

func sealsNot(t *testing.T, what string, l []impl.Seal, w impl.World) {
	t.Helper()
	if s, ok := impl.NextSeal(l, w); ok || !sameSeal(s, impl.Seal{}) {
		t.Errorf("%s: the seal behind %d is %v, %d %x %x %x", what, len(l), ok, s.No, s.Prev, s.Super, s.Roots)
	}
}

// notOnce asks that a chain with one thing changed is none, whatever it is, at each place.
func notOnce(t *testing.T, what string, l []impl.Seal) {
	t.Helper()
	none := func(name string, change func(l []impl.Seal) []impl.Seal) {
		t.Helper()
		isChain(t, what+": "+name, false, bentChain(l, change))
	}
	for i := range l {
		at, last := fmt.Sprint(" at ", i, " of ", len(l)), i == len(l)-1
		one := func(name string, change func(s *impl.Seal)) {
			t.Helper()
			none(name+at, func(l []impl.Seal) []impl.Seal { change(&l[i]); return l })
		}
		// remade has the Super of what it has now: at the end of a chain nothing tells it from a seal of other roots.
		remade := func(name string, chain bool, change func(s *impl.Seal)) {
			t.Helper()
			one(name, change)
			isChain(t, what+": "+name+at+", made anew", chain, bentChain(l, func(l []impl.Seal) []impl.Seal {
				change(&l[i])
				l[i] = sealBy(l[i].No, l[i].Prev, l[i].Roots)
				return l
			}))
		}
		for j := range i {
			none(fmt.Sprint("exchanged with ", j, at), func(l []impl.Seal) []impl.Seal { l[i], l[j] = l[j], l[i]; return l })
			none(fmt.Sprint("moved to ", j, at), func(l []impl.Seal) []impl.Seal {
				return slices.Insert(slices.Delete(l, i, i+1), j, l[i])
			})
			none(fmt.Sprint("once more ahead of ", j, at), func(l []impl.Seal) []impl.Seal { return slices.Insert(l, j, l[i]) })
			remade(fmt.Sprint("Prev of ", j), false, func(s *impl.Seal) { s.Prev = l[j].Prev })
			remade(fmt.Sprint("No of ", j), false, func(s *impl.Seal) { s.No = l[j].No })
		}
		if !last {
			none("left out"+at, func(l []impl.Seal) []impl.Seal { return slices.Delete(l, i, i+1) })
			none("all ahead left out"+at, func(l []impl.Seal) []impl.Seal { return l[i+1:] })
		}
		none("twice"+at, func(l []impl.Seal) []impl.Seal { return slices.Insert(l, i, l[i]) })
		none("the zero one"+at, func(l []impl.Seal) []impl.Seal { l[i] = impl.Seal{}; return l })
		none("the zero one ahead"+at, func(l []impl.Seal) []impl.Seal { return slices.Insert(l, i, impl.Seal{}) })
		for _, no := range []int{0, -l[i].No, l[i].No - 1, l[i].No + 1, 1001, math.MaxInt, math.MinInt} {
			remade(fmt.Sprint("No ", no), false, func(s *impl.Seal) { s.No = no })
		}
		for _, place := range []int{0, 15, 31} {
			remade(fmt.Sprint("Prev turned at ", place), false, func(s *impl.Seal) { s.Prev = turnedText(s.Prev, place) })
			one(fmt.Sprint("Super turned at ", place), func(s *impl.Seal) { s.Super = turnedText(s.Super, place) })
		}
		remade("no Prev", false, func(s *impl.Seal) { s.Prev = "" })
		remade("its Super for its Prev", false, func(s *impl.Seal) { s.Prev = s.Super })
		one("no Super", func(s *impl.Seal) { s.Super = "" })
		one("its Prev for its Super", func(s *impl.Seal) { s.Super = s.Prev })
		for place := range l[i].Roots {
			remade(fmt.Sprint("another root ", place), last, func(s *impl.Seal) { s.Roots[place] = turnedText(s.Roots[place], place) })
			remade(fmt.Sprint("short root ", place), false, func(s *impl.Seal) { s.Roots[place] = s.Roots[place][1:] })
			remade(fmt.Sprint("without root ", place), last && len(l[i].Roots) > 1, func(s *impl.Seal) { s.Roots = slices.Delete(s.Roots, place, place+1) })
			remade(fmt.Sprint("once more root ", place), last && len(l[i].Roots) < 8, func(s *impl.Seal) { s.Roots = slices.Insert(s.Roots, place, s.Roots[place]) })
		}
		remade("no roots", false, func(s *impl.Seal) { s.Roots = nil })
	}
}

// beginningsHold asks that each beginning of a chain is one.
func beginningsHold(t *testing.T, what string, l []impl.Seal) {
	t.Helper()
	for n := range len(l) + 1 {
		isChain(t, fmt.Sprint(what, ", the first ", n), true, l[:n])
	}
}

// Seals are a chain.
func TestSealsAreAChain(t *testing.T) {
	put := func(key string) impl.Op { return impl.Op{Kind: impl.OpPut, Key: key, Val: "of" + key} }
	del := func(key string) impl.Op { return impl.Op{Kind: impl.OpDel, Key: key} }
	for n := 1; n <= 8; n++ {
		what := fmt.Sprint(n, " shards")
		w, list := impl.WorldNew(n), []impl.Seal{}
		for step := range 8 {
			list = append(list, seals(t, what, list, w))
			switch step {
			case 0, 3:
				w = putAll(w, strings.Fields("a b c d e f g h k m n p q")[step:step+8], put)
			case 1, 5:
				w = putAll(w, strings.Fields("b d f g"), del)
			case 4:
				w, _ = impl.Do(w, eventOf("fall 0"))
			case 6:
				w = putAll(w, []string{"zz"}, put)
			}
			beginningsHold(t, what, list)
		}
		if len(impl.Tables(w)) < 8 || slices.Equal(list[1].Roots, list[2].Roots) || !slices.Equal(list[2].Roots, list[3].Roots) || list[2].Super == list[3].Super {
			t.Errorf("%s: %v, %x", what, impl.Tables(w), list[1:4])
		}
		notOnce(t, what, list)
	}
}

// Digests that another program has told, so that one fault in both ways of working them out shows.
func TestSealsOfKnownDigests(t *testing.T) {
	w := impl.WorldNew(1)
	one := seals(t, "new", nil, w)
	w = putAll(w, []string{"a"}, func(key string) impl.Op { return impl.Op{Kind: impl.OpPut, Key: key, Val: "1"} })
	two := seals(t, "a=1", []impl.Seal{one}, w)
	for got, want := range map[string]string{
		one.Prev:  "e3b0c44298fc1c149afbf4c8996fb92427ae41e4649b934ca495991b7852b855",
		one.Super: "d0f38e39e49432a3f38ccc317efbe12687cab7323ca2e47f92db5c4131ca8031",
		two.Super: "f9a127aeef995c1995e3283030a4e48b867efdd98dce9631cd5301326523dc13",
		seals(t, "eight", nil, impl.WorldNew(8)).Super:                    "e0292bd77ef6bfaa42d9d23c8194e2221e78550cc9829de38e8c61d24b86b8e7",
		impl.SuperOf(0, "", nil):                                          "9d9f290527a6be626a8f5985b26e19b237b44872b03631811df4416fc1713178",
		impl.SuperOf(1000, "ab", []string{"c", ""}):                       "ba32574a505927a7f418fba8ac4d40469573e80bdd5b988f8fae534631d3a1c1",
		impl.SuperOf(impl.MaxNum, "", []string{strings.Repeat("x", 200)}): "e77869a7bb26080ee17b3ad7bf31cc884d6dab5ee451bfaa6927e6574f410361",
	} {
		if fmt.Sprintf("%x", got) != want {
			t.Errorf("%x is not %s", got, want)
		}
	}
	if one.No != 1 || two.No != 2 || one.Prev != impl.Digest(nil) || two.Prev != one.Super || two.Super == one.Super {
		t.Errorf("%d %x, then %d %x", one.No, one.Prev, two.No, two.Prev)
	}
}

// The first one has the Digest of no bytes ahead of it, whatever was sealed elsewhere; nothing else stands for it, and it stands for nothing else.
func TestTheFirstSeal(t *testing.T) {
	roots := someRoots(3, "first")
	first := sealBy(1, shaOf(), roots)
	isChain(t, "the first", true, []impl.Seal{first})
	for what, prev := range map[string]string{
		"nothing": "", "noughts": strings.Repeat("\x00", 32), "its own": first.Super, "a digest of a byte": shaOf("\x00"), "a digest of the digest": shaOf(shaOf()),
		"digits": impl.HexOf(shaOf()), "half of the digits": impl.HexOf(shaOf())[:32], "a root": roots[0], "the root of no pairs": rootBySha(nil), "31 bytes": shaOf()[:31], "33 bytes": shaOf() + "x",
	} {
		s := sealBy(1, prev, roots)
		isSeal(t, "Prev is "+what, false, s)
		isChain(t, "Prev is "+what, false, []impl.Seal{s})
		isChain(t, "Prev is "+what+", and one behind", false, []impl.Seal{s, sealBy(2, s.Super, roots)})
		sealsNot(t, "Prev is "+what, []impl.Seal{s}, impl.WorldNew(3))
		isSeal(t, "another number, Prev is "+what, len(prev) == 32, sealBy(2, prev, roots))
	}
	for no := 2; no <= 4; no++ {
		s := sealBy(no, shaOf(), roots)
		isSeal(t, fmt.Sprint("No ", no, " as a first"), true, s)
		isChain(t, fmt.Sprint("No ", no, " as a first"), false, []impl.Seal{s})
		isChain(t, fmt.Sprint("No ", no, " behind the first"), false, []impl.Seal{first, s})
	}
	isChain(t, "the second alone", false, []impl.Seal{sealBy(2, first.Super, roots)})
	isChain(t, "the second", true, []impl.Seal{first, sealBy(2, first.Super, roots)})
	isChain(t, "another first, the same second", false, []impl.Seal{sealBy(1, shaOf(), someRoots(3, "other")), sealBy(2, first.Super, roots)})
}

func TestSuperByteByByte(t *testing.T) {
	supers := func(no int, prev string, roots []string) {
		t.Helper()
		if got := impl.SuperOf(no, prev, roots); got != superBySha(no, prev, roots) || len(got) != 32 {
			t.Errorf("SuperOf %d, %d bytes, %d roots is %x, not %x", no, len(prev), len(roots), got, superBySha(no, prev, roots))
		}
		b := impl.PutTexts(impl.PutText(impl.PutNum([]byte{3}, no), prev), roots)
		if got := impl.SuperOf(no, prev, roots); got != impl.Digest(b) {
			t.Errorf("SuperOf %d, %d bytes, %d roots is %x, not the Digest of %d bytes", no, len(prev), len(roots), got, len(b))
		}
	}
	sizes := []int{0, 1, 2, 31, 32, 33, 55, 56, 63, 64, 65, 127, 128, 129, 255, 256, 16383, 16384, 70000}
	numbers := []int{math.MinInt, -1000, -1, 0, 1, 2, 127, 128, 129, 999, 1000, 1001, 16383, 16384, 2097151, 2097152, 268435455, 268435456, impl.MaxNum - 1, impl.MaxNum, impl.MaxNum + 1, math.MaxInt32, math.MaxInt}
	for _, no := range numbers {
		supers(no, "", nil)
		supers(no, shaOf(), someRoots(3, "a"))
	}
	for _, size := range sizes {
		supers(7, mixedText(size), nil)
		supers(7, shaOf(), []string{mixedText(size)})
		supers(7, mixedText(size), []string{"", mixedText(size), "", mixedText(size + 1)})
	}
	for _, count := range []int{0, 1, 2, 7, 8, 9, 127, 128, 129, 199, 200, 201, 1000, 16384} {
		supers(1, shaOf(), someRoots(count, "many"))
		supers(1000, "", make([]string, count))
	}
	supers(1, "\x00\xff\x80é", []string{"\xff\xfe", "\x00", "☃"})
	for _, pair := range [][2]int{{math.MinInt, 0}, {-1, 0}, {impl.MaxNum + 1, impl.MaxNum}, {math.MaxInt, impl.MaxNum}} {
		if impl.SuperOf(pair[0], "p", []string{"r"}) != impl.SuperOf(pair[1], "p", []string{"r"}) {
			t.Errorf("%d is not put as %d", pair[0], pair[1])
		}
	}
}

// What is told of other parts has another digest, also where the bytes of all parts together are the same.
func TestSupersAreUnlike(t *testing.T) {
	found := map[string]string{}
	unlike := func(no int, prev string, roots []string) {
		t.Helper()
		told := fmt.Sprintf("%d %q %q", no, prev, roots)
		super := impl.SuperOf(no, prev, roots)
		if other, there := found[super]; there && other != told {
			t.Errorf("%s has the super of %s", told, other)
		}
		found[super] = told
	}
	parts := []string{"", "a", "ab", "b", "abc", "bc", "c", "\x01", "\x01a", "\x02ab", "\x00", "\x01\x01a"}
	for no := range 4 {
		for _, prev := range parts {
			unlike(no, prev, nil)
			for _, one := range parts {
				unlike(no, prev, []string{one})
				for _, two := range parts {
					unlike(no, prev, []string{one, two})
				}
			}
		}
	}
	if len(found) != 4*12*(1+12+144) {
		t.Errorf("%d supers", len(found))
	}
	for _, mark := range []string{"\x00", "\x01", "\x02", "\x04", ""} {
		if super := impl.SuperOf(1, shaOf(), nil); super == shaOf(mark, "\x01\x20", shaOf(), "\x00") {
			t.Errorf("the mark is %q", mark)
		}
	}
	if impl.SuperOf(1, "", nil) != impl.SuperOf(1, "", []string{}) {
		t.Error("no roots are not as an empty list")
	}
}

func TestSealsAtTheirEdges(t *testing.T) {
	base := sealBy(5, shaOf("ahead"), someRoots(8, "edges"))
	isSeal(t, "as it is", true, base)
	for no, want := range map[int]bool{math.MinInt: false, -1000: false, -1: false, 0: false, 1: true, 2: true, 3: true, 500: true, 999: true, 1000: true, 1001: false, 1002: false, 2000: false, impl.MaxNum: false, math.MaxInt: false} {
		isSeal(t, fmt.Sprint("No ", no), want, sealBy(no, shaOf(), base.Roots))
		if no != 1 {
			isSeal(t, fmt.Sprint("No ", no, ", a Prev"), want, sealBy(no, base.Prev, base.Roots))
		}
		if no != 5 {
			isSeal(t, fmt.Sprint("No ", no, " with the Super of 5"), false, impl.Seal{No: no, Prev: base.Prev, Super: base.Super, Roots: base.Roots})
		}
	}
	for size := range 70 {
		prev := mixedText(size)
		isSeal(t, fmt.Sprint("Prev of ", size), size == 32, sealBy(5, prev, base.Roots))
		isSeal(t, fmt.Sprint("Prev of ", size, ", one root"), size == 32, sealBy(1000, prev, base.Roots[:1]))
		for at := range base.Roots {
			roots := slices.Clone(base.Roots)
			roots[at] = prev
			isSeal(t, fmt.Sprint("root ", at, " of ", size), size == 32, sealBy(5, base.Prev, roots))
			isSeal(t, fmt.Sprint("last root of ", size), size == 32, sealBy(5, base.Prev, roots[:at+1]))
		}
	}
	for count := range 20 {
		isSeal(t, fmt.Sprint(count, " roots"), count >= 1 && count <= 8, sealBy(5, base.Prev, someRoots(count, "count")))
		isSeal(t, fmt.Sprint(count, " roots of the first"), count >= 1 && count <= 8, sealBy(1, shaOf(), someRoots(count, "count")))
		same := slices.Repeat(base.Roots[:1], count)
		isSeal(t, fmt.Sprint(count, " roots alike"), count >= 1 && count <= 8, sealBy(5, base.Prev, same))
	}
	for _, count := range []int{200, 201, 256, 257, 264, 100000} {
		isSeal(t, fmt.Sprint(count, " roots"), false, sealBy(5, base.Prev, someRoots(count, "many")))
	}
	// 64 bytes in all, not 32 each
	isSeal(t, "roots of 31 and 33", false, sealBy(5, base.Prev, []string{mixedText(31), mixedText(33)}))
	isSeal(t, "any bytes for a root", true, sealBy(5, strings.Repeat("\x00", 32), []string{strings.Repeat("\xff", 32), strings.Repeat(" ", 32)}))
	isSeal(t, "zero", false, impl.Seal{})
	isSeal(t, "the zero one with its Super", false, sealBy(0, "", nil))
}

// Another Super is that of another seal, or of none.
func TestSealsWithAnotherSuper(t *testing.T) {
	base := sealBy(5, shaOf("ahead"), someRoots(3, "super"))
	swapped := []string{base.Roots[1], base.Roots[0], base.Roots[2]}
	supers := map[string]string{
		"none": "", "its Prev": base.Prev, "a root": base.Roots[0], "noughts": strings.Repeat("\x00", 32), "digits": impl.HexOf(base.Super),
		"the next No's": superBySha(6, base.Prev, base.Roots), "another Prev's": superBySha(5, shaOf(), base.Roots), "other roots'": superBySha(5, base.Prev, someRoots(3, "other")),
		"exchanged roots'": superBySha(5, base.Prev, swapped), "fewer roots'": superBySha(5, base.Prev, base.Roots[:2]), "no roots'": superBySha(5, base.Prev, nil), "more roots'": superBySha(5, base.Prev, append(swapped, swapped...)),
		"longer": base.Super + "\x00", "shorter": base.Super[:31], "its end": base.Super[1:],
	}
	for at := range 32 {
		supers[fmt.Sprint("turned at ", at)] = turnedText(base.Super, at)
	}
	for what, super := range supers {
		s := base
		s.Super = super
		isSeal(t, what, false, s)
		l := someChain(4)
		l = append(l, sealBy(5, l[3].Super, base.Roots))
		isChain(t, "a chain", true, l)
		l[4].Super = super
		isChain(t, "at the end, "+what, false, l)
	}
	isSeal(t, "exchanged roots", false, impl.Seal{No: 5, Prev: base.Prev, Super: base.Super, Roots: swapped})
	isSeal(t, "exchanged roots, and their Super", true, sealBy(5, base.Prev, swapped))
}

func TestChainsChangedOnce(t *testing.T) {
	for _, n := range []int{1, 2, 3, 9} {
		list := someChain(n)
		beginningsHold(t, "a chain", list)
		notOnce(t, fmt.Sprint(n, " seals"), list)
	}
	list, other := someChain(6), []impl.Seal{sealBy(1, shaOf(), someRoots(2, "other"))}
	for i := 1; i < 6; i++ {
		other = append(other, sealBy(i+1, other[i-1].Super, list[i].Roots))
		isChain(t, "another chain", true, other)
		isChain(t, "half of each", false, slices.Concat(list[:i], other[i:]))
		isChain(t, "half of each", false, slices.Concat(other[:i], list[i:]))
		isChain(t, "both", false, slices.Concat(other, list[:i]))
	}
	fork := sealBy(4, list[2].Super, someRoots(8, "fork"))
	isChain(t, "a fork's other end", true, slices.Concat(list[:3], []impl.Seal{fork}))
	isChain(t, "both ends of a fork", false, slices.Concat(list[:4], []impl.Seal{fork}))
	isChain(t, "a fork in the middle", false, slices.Concat(list[:3], []impl.Seal{fork}, list[4:]))
	turned := slices.Clone(list)
	slices.Reverse(turned)
	isChain(t, "turned", false, turned)
	isChain(t, "one left out and the others numbered anew", false, bentChain(list, func(l []impl.Seal) []impl.Seal {
		l = slices.Delete(l, 2, 3)
		for i := range l {
			l[i] = sealBy(i+1, l[i].Prev, l[i].Roots)
		}
		return l
	}))
	isChain(t, "one left out and the others made anew", true, bentChain(list, func(l []impl.Seal) []impl.Seal {
		l = slices.Delete(l, 2, 3)
		for i := range l {
			prev := shaOf()
			if i > 0 {
				prev = l[i-1].Super
			}
			l[i] = sealBy(i+1, prev, l[i].Roots)
		}
		return l
	}))
}

func TestChainsOfAllLengths(t *testing.T) {
	isChain(t, "nil", true, nil)
	isChain(t, "empty", true, []impl.Seal{})
	list := someChain(mostSeals + 3)
	for _, n := range []int{0, 1, 2, 10, 500, 999, 1000} {
		isChain(t, "a chain", true, list[:n])
	}
	for _, n := range []int{1001, 1002, 1003} {
		isChain(t, "too long", false, list[:n])
	}
	isChain(t, "1001, the last twice", false, append(copySeals(list[:1000]), list[999]))
	isChain(t, "1001, the last numbered 1000", false, append(copySeals(list[:1000]), sealBy(1000, list[999].Super, list[999].Roots)))
	isChain(t, "1001, one ahead", false, append([]impl.Seal{sealBy(0, shaOf(), someRoots(1, "ahead"))}, list[:1000]...))
	isChain(t, "1000 from the second on", false, list[1:1001])
	isChain(t, "1001 zero ones", false, make([]impl.Seal, 1001))
	isChain(t, "a zero one", false, make([]impl.Seal, 1))
	isChain(t, "1000 times the first", false, slices.Repeat(list[:1], 1000))
	isChain(t, "very many", false, slices.Repeat(list, 300))
	for _, at := range []int{0, 1, 500, 998, 999} {
		for what, change := range map[string]func(s *impl.Seal){
			"No": func(s *impl.Seal) { s.No++ }, "Prev": func(s *impl.Seal) { s.Prev = turnedText(s.Prev, 3) }, "Super": func(s *impl.Seal) { s.Super = turnedText(s.Super, 3) }, "Root": func(s *impl.Seal) { s.Roots[0] = turnedText(s.Roots[0], 3) },
		} {
			isChain(t, fmt.Sprint("another ", what, " at ", at), false, bentChain(list[:1000], func(l []impl.Seal) []impl.Seal { change(&l[at]); return l }))
		}
	}
}

func TestTheLastSealOfAll(t *testing.T) {
	list, w := someChain(mostSeals+1), impl.WorldNew(2)
	for _, n := range []int{0, 1, 2, 10, 500, 998, 999} {
		s := seals(t, "a chain", list[:n], w)
		isChain(t, "with its next", true, append(copySeals(list[:n]), s))
	}
	last := seals(t, "the last", list[:999], w)
	if last.No != 1000 || last.Prev != list[998].Super {
		t.Errorf("the last is %d, behind %x", last.No, last.Prev)
	}
	sealsNot(t, "1000 are there", append(copySeals(list[:999]), last), w)
	for _, n := range []int{1000, 1001} {
		sealsNot(t, "too many", list[:n], w)
	}
	sealsNot(t, "far too many", slices.Repeat(list, 50), w)
	sealsNot(t, "999, one twice", append(copySeals(list[:998]), list[997]), w)
	sealsNot(t, "999 from the second on", list[1:1000], w)
	sealsNot(t, "999 zero ones", make([]impl.Seal, 999), w)
}

// Other shards may have been there when the seals ahead were made: these are asked for their form alone.
func TestSealsBehindOtherWorlds(t *testing.T) {
	list := []impl.Seal{}
	for _, n := range []int{3, 1, 8, 2, 8} {
		list = append(list, seals(t, "another n", list, impl.WorldNew(n)))
		isChain(t, "worlds of other sizes", true, list)
		if len(list[len(list)-1].Roots) != n {
			t.Errorf("%d roots of %d shards", len(list[len(list)-1].Roots), n)
		}
	}
	notOnce(t, "worlds of other sizes", list)
}

func TestWhatIsNoChainIsNotGoneOn(t *testing.T) {
	list, w := someChain(5), impl.WorldNew(3)
	seals(t, "a chain", list, w)
	for i := range list {
		for what, change := range map[string]func(l []impl.Seal) []impl.Seal{
			"No":        func(l []impl.Seal) []impl.Seal { l[i].No++; return l },
			"Prev":      func(l []impl.Seal) []impl.Seal { l[i].Prev = turnedText(l[i].Prev, i); return l },
			"Super":     func(l []impl.Seal) []impl.Seal { l[i].Super = turnedText(l[i].Super, i); return l },
			"a root":    func(l []impl.Seal) []impl.Seal { l[i].Roots[0] = turnedText(l[i].Roots[0], i); return l },
			"no roots":  func(l []impl.Seal) []impl.Seal { l[i].Roots = nil; return l },
			"twice":     func(l []impl.Seal) []impl.Seal { return slices.Insert(l, i, l[i]) },
			"turned":    func(l []impl.Seal) []impl.Seal { slices.Reverse(l); return l },
			"exchanged": func(l []impl.Seal) []impl.Seal { l[i], l[(i+1)%5] = l[(i+1)%5], l[i]; return l },
			"zero":      func(l []impl.Seal) []impl.Seal { l[i] = impl.Seal{}; return l },
			"left out":  func(l []impl.Seal) []impl.Seal { return slices.Delete(l, i, i+1) },
		} {
			l := bentChain(list, change)
			if what == "left out" && i == 4 {
				seals(t, "without the last", l, w)
				continue
			}
			isChain(t, what, false, l)
			sealsNot(t, fmt.Sprint(what, " at ", i), l, w)
		}
	}
}

const resting = `
	c 2 3 : 2000 a=1 g=1 / yes 0 1; 2001 b=1 c=1 / no 1; 2002 h=1 / yes 1 : 1000- 2000+ 2001- 2002+ : 4
	0 : 2000 g=1; 2000+; 1000- : 3
	1 : 2000 a=1; 2001 b=1; 2000+; 2001-; 2002 h=1; 2002+ : 6
	2 : 2001- : 1
	begun : 1000 a=5; 2000 a=1 g=1; 2001 b=1 c=1; 2002 h=1`

// Worlds that are right and do not rest, each for one thing alone.
func TestWorldsThatDoNotRestAreNotSealed(t *testing.T) {
	base := worldOf(t, 3, resting)
	list := []impl.Seal{seals(t, "at rest", nil, base)}
	seals(t, "at rest", list, base)
	for what, change := range map[string]func(w *impl.World){
		"a shard holds one":          func(w *impl.World) { w.Shards[1] = shardBy(t, 1, append(w.Shards[1].Log, recOf("7 a=2")), 7) },
		"a shard without pairs does": func(w *impl.World) { w.Shards[2] = shardBy(t, 2, recsOf("7 c=2"), 0) },
		"the first shard does":       func(w *impl.World) { w.Shards[0] = shardBy(t, 0, append(w.Shards[0].Log, recOf("7 g?1")), 0) },
		"a job asks": func(w *impl.World) {
			w.C.Next, w.C.Jobs, w.Begun = 4, append(w.C.Jobs, jobsOf("2003 a=7 / asks")...), append(w.Begun, begunOf("2003 a=7")...)
		},
		"the only job asks":            func(w *impl.World) { w.C.Log, w.C.Sure, w.C.Jobs = nil, 0, jobsOf("2000 a=1 g=1 / asks 0") },
		"a choice is not sure":         func(w *impl.World) { w.C.Sure = 3 },
		"no choice is sure":            func(w *impl.World) { w.C.Sure = 0 },
		"a choice of no is not sure":   func(w *impl.World) { w.C.Jobs, w.C.Log, w.C.Sure = nil, logOf("1000-"), 0 },
		"a choice that nobody is told": func(w *impl.World) { w.C.Jobs, w.C.Sure = nil, 2 },
	} {
		w := changed(base, change)
		isWorld(t, what, true, w)
		if restingByHand(w) {
			t.Errorf("%s: it rests", what)
		}
		sealsNot(t, what, nil, w)
		sealsNot(t, what, list, w)
	}
	for what, change := range map[string]func(w *impl.World){
		"words on their way":         func(w *impl.World) { w.Net = wordsOf("hold 1 2002 h=1; tell 0 2000 yes; ask 0 7") },
		"words that wait":            func(w *impl.World) { w.Outs = wordsOf("vote 1 2002 yes") },
		"records that are not sure":  func(w *impl.World) { w.Shards[1].Sure = 0 },
		"no jobs":                    func(w *impl.World) { w.C.Jobs = nil },
		"a later life":               func(w *impl.World) { w.C.Jobs, w.C.Life, w.C.Next = nil, 9, 0 },
		"no choices":                 func(w *impl.World) { w.C.Jobs, w.C.Log, w.C.Sure = nil, nil, 0 },
		"tables that nothing backs":  func(w *impl.World) { w.Shards[2] = shardBy(t, 2, recsOf("9 c=1 e=1; 9+"), 2) },
		"a key at another's shard":   func(w *impl.World) { w.Shards[2] = shardBy(t, 2, recsOf("9 a=2 g=2; 9+"), 2) },
		"as many pairs as there may": func(w *impl.World) { w.Shards[2] = shardBy(t, 2, filling(impl.MaxPairs), 0) },
	} {
		w := changed(base, change)
		isWorld(t, what, true, w)
		if !restingByHand(w) {
			t.Errorf("%s: it does not rest", what)
		}
		isChain(t, what, true, append(copySeals(list), seals(t, what, list, w)))
	}
}

func TestWrongWorldsAreNotSealed(t *testing.T) {
	list := someChain(2)
	m := seen{}
	for what, w := range wrongWorlds(t) {
		m[fmt.Sprint("rests ", restingByHand(w))]++
		sealsNot(t, what, nil, w)
		sealsNot(t, what, list, w)
	}
	m.atLeast(t, 10, "rests true", "rests false")
	base := worldOf(t, 3, resting)
	for what, change := range map[string]func(w *impl.World){
		"N":              func(w *impl.World) { w.C.N = 4 },
		"a pair":         func(w *impl.World) { w.Shards[1].Map[0].Val = "2" },
		"no pairs":       func(w *impl.World) { w.Shards[1].Map = nil },
		"a pair more":    func(w *impl.World) { w.Shards[2].Map = pairsOf("c=1") },
		"an Id":          func(w *impl.World) { w.Shards[1].Id = 2 },
		"shards turned":  func(w *impl.World) { slices.Reverse(w.Shards) },
		"a shard fewer":  func(w *impl.World) { w.Shards = w.Shards[:2] },
		"a shard more":   func(w *impl.World) { w.Shards = append(w.Shards, impl.ShardNew(3)) },
		"no shards":      func(w *impl.World) { w.Shards = nil },
		"nothing begun":  func(w *impl.World) { w.Begun = nil },
		"Sure":           func(w *impl.World) { w.C.Sure = 5 },
		"a shard's Sure": func(w *impl.World) { w.Shards[2].Sure = 2 },
		"a word":         func(w *impl.World) { w.Net = wordsOf("tell 3 2000 yes") },
		"a state":        func(w *impl.World) { w.C.Jobs[0].State = 0 },
	} {
		w := changed(base, change)
		isWorld(t, what, false, w)
		if !restingByHand(w) {
			t.Errorf("%s: it does not rest", what)
		}
		sealsNot(t, what, nil, w)
		sealsNot(t, what, list, w)
	}
	for _, n := range []int{-1, 0, 9, math.MaxInt} {
		sealsNot(t, fmt.Sprint("new of ", n), nil, impl.WorldNew(n))
	}
	sealsNot(t, "all of it", make([]impl.Seal, 1001), impl.World{})
}

// Where a world is on its way, it is sealed at rest alone.
func TestSealsOfAWorldOnItsWay(t *testing.T) {
	w, list := impl.WorldNew(3), []impl.Seal{}
	for _, x := range []struct {
		events string
		sealed bool
	}{
		{"sure 0", true}, {"begin a=1 c=1", false}, {"hear 0; hear 0", false}, {"sure 1; sure 2; hear 0; hear 0", false}, {"decide", false}, {"tell; hear 0", false}, {"hear 0", true}, {"tell; double 0", true},
		{"begin -a b=2 c?2 g=3; hear 3", false}, {"fall 0", false}, {"hear 3; hear 3; ask 0; hear 3; hear 3", false}, {"ask 1; hear 3; hear 3", true}, {"crash 1; crash 2", false}, {"ask 1; hear 3; hear 3", false}, {"ask 2; hear 3; hear 3", true}, {"fall 0", true},
	} {
		for _, part := range strings.Split(x.events, ";") {
			w = does(t, w, eventOf(part), true)
			if restingByHand(w) {
				list = append(list, seals(t, part, list, w))
				isChain(t, part, true, list)
			} else {
				sealsNot(t, part, list, w)
			}
		}
		if restingByHand(w) != x.sealed {
			t.Errorf("%s: rests is %v, of\n%s", x.events, !x.sealed, strings.Join(worldTold(w), "\n"))
		}
	}
	if len(list) < 6 {
		t.Errorf("%d seals", len(list))
	}
}

// Of two worlds with the same tables the roots are the same, whatever made them.
func TestSameTablesHaveTheSameRoots(t *testing.T) {
	put := func(val string) func(key string) impl.Op {
		return func(key string) impl.Op { return impl.Op{Kind: impl.OpPut, Key: key, Val: val} }
	}
	del := func(key string) impl.Op { return impl.Op{Kind: impl.OpDel, Key: key} }
	keys := strings.Fields("a b c d e f g h k m zz abcdefghijkl 0 9")
	for n := 1; n <= 8; n++ {
		straight := putAll(impl.WorldNew(n), keys, put("1"))
		roundabout := impl.WorldNew(n)
		for _, key := range []string{"m", "a", "9", "zz"} {
			roundabout = putAll(roundabout, []string{key, "x" + key}, put("other"))
		}
		roundabout, _ = impl.Do(roundabout, eventOf("fall 0"))
		roundabout = putAll(putAll(roundabout, keys[5:], put("1")), keys[:5], put("2"))
		roundabout = putAll(putAll(roundabout, strings.Fields("xm xa x9 xzz"), del), keys, put("1"))
		roundabout = calm(impl.Play(roundabout, eventsOf("begin a?2 zzz=1; begin b=7; drop 0; drop 0; fall 0; crash 0")), func(w impl.World) {})
		what := fmt.Sprint(n, " shards")
		if !slices.Equal(impl.Tables(straight), impl.Tables(roundabout)) || sameWorld(straight, roundabout) {
			t.Fatalf("%s: %v, %v", what, impl.Tables(straight), impl.Tables(roundabout))
		}
		one, two := seals(t, what, nil, straight), seals(t, what, nil, roundabout)
		if !slices.Equal(one.Roots, two.Roots) || !sameSeal(one, two) {
			t.Errorf("%s: %x, %x", what, one.Roots, two.Roots)
		}
		later := seals(t, what, []impl.Seal{one, seals(t, what, []impl.Seal{one}, straight)}, roundabout)
		if !slices.Equal(one.Roots, later.Roots) || later.Super == one.Super {
			t.Errorf("%s: %x, later %x", what, one.Roots, later.Roots)
		}
		other := seals(t, what, nil, putAll(straight, []string{"g"}, put("2")))
		for at := range n {
			if (other.Roots[at] == one.Roots[at]) != (at != shardByFnv("g", n)) {
				t.Errorf("%s: with another g root %d is %x, not %x", what, at, other.Roots[at], one.Roots[at])
			}
		}
	}
}

// Of WorldNew, by whatever events: what rests is sealed, what does not is not, all seals are a chain, and tables are alike just where roots are.
func TestSealsOfManyWorlds(t *testing.T) {
	from := rand.New(rand.NewSource(15))
	m, byTables, byRoots := seen{}, map[string]string{}, map[string]string{}
	for run := range 80 {
		w, list := impl.WorldNew(1+run%8), []impl.Seal{}
		look := func(w impl.World) {
			if !restingByHand(w) || !worldByHand(w) {
				m["not sealed"]++
				sealsNot(t, "rough", list, w)
				return
			}
			m["sealed"]++
			s := seals(t, "rough", list, w)
			tables, roots := fmt.Sprint(len(w.Shards), pairsTold(impl.Tables(w))), strings.Join(s.Roots, "")
			m.noteIf("tables that were there", byTables[tables] != "")
			m.noteIf("tables with pairs", len(impl.Tables(w)) > 0)
			if other, there := byTables[tables]; there && other != roots {
				t.Errorf("%s has other roots", tables)
			}
			if other, there := byRoots[roots]; there && other != tables {
				t.Errorf("%s and %s have the same roots", tables, other)
			}
			byTables[tables], byRoots[roots] = roots, tables
			if from.Intn(4) == 0 {
				list = append(list, s)
			}
		}
		for range 3 {
			for range 10 + from.Intn(100) {
				w, _ = impl.Do(w, roughEvent(from, w))
				look(w)
			}
			w = calm(w, look)
		}
		isChain(t, "rough", true, list)
		m.noteIf("long chains", len(list) > 10)
		if at := from.Intn(len(list) + 1); at+1 < len(list) {
			isChain(t, "one left out", false, slices.Delete(copySeals(list), at, at+1))
		}
	}
	m["tables"] = len(byTables)
	m.atLeast(t, 200, "sealed", "not sealed", "tables that were there", "tables with pairs")
	m.atLeast(t, 40, "long chains", "tables")
}

// roughSeal is a seal of which some things are not right.
func roughSeal(from *rand.Rand, list []impl.Seal) impl.Seal {
	texts := []string{"", shaOf(), shaOf("x"), mixedText(31), mixedText(33), "a", strings.Repeat("\xff", 32), mixedText(400)}
	s := impl.Seal{No: from.Intn(len(list)+3) - 1, Prev: texts[from.Intn(len(texts))], Super: texts[from.Intn(len(texts))]}
	if len(list) > 0 {
		other := list[from.Intn(len(list))]
		if from.Intn(2) > 0 {
			s.Prev = other.Super
		}
		if from.Intn(3) > 0 {
			s.No, s.Prev = len(list)+1, list[len(list)-1].Super
		}
		s.Roots = slices.Clone(other.Roots)
	}
	for range from.Intn(11) {
		root := texts[1+from.Intn(2)]
		if from.Intn(12) == 0 {
			root = texts[from.Intn(len(texts))]
		}
		s.Roots = append(s.Roots, root)
	}
	if from.Intn(5) > 0 {
		s.Roots = s.Roots[:min(len(s.Roots), 1+from.Intn(8))]
	}
	if from.Intn(20) == 0 {
		s.No = []int{math.MinInt, -1, 1000, 1001, impl.MaxNum, math.MaxInt}[from.Intn(6)]
	}
	if from.Intn(8) > 0 {
		return sealBy(s.No, s.Prev, s.Roots)
	}
	return s
}

// Whatever list it is given, each call answers.
func TestAnyListIsAnswered(t *testing.T) {
	from := rand.New(rand.NewSource(151))
	worlds := []impl.World{impl.WorldNew(1), impl.WorldNew(8), worldOf(t, 3, resting), busyWorld(t), {}}
	m := seen{}
	for range 4000 {
		list := someChain(from.Intn(4))
		for range from.Intn(5) {
			s := roughSeal(from, list)
			isSeal(t, "rough", sealByHand(s), s)
			m[fmt.Sprint("seal ", sealByHand(s))]++
			m.noteIf("first of another Prev", s.No == 1 && len(s.Prev) == 32 && s.Prev != shaOf())
			list = append(list, s)
		}
		want := chainByHand(list)
		isChain(t, "rough", want, list)
		m[fmt.Sprint("chain ", want)]++
		m.noteIf("seals that are right, and no chain", !want && !slices.ContainsFunc(list, func(s impl.Seal) bool { return !sealByHand(s) }))
		w := worlds[from.Intn(len(worlds))]
		if want && worldByHand(w) && restingByHand(w) {
			seals(t, "rough", list, w)
		} else {
			sealsNot(t, "rough", list, w)
		}
	}
	m.atLeast(t, 50, "seal true", "seal false", "chain true", "chain false", "first of another Prev", "seals that are right, and no chain")
}

func TestSealsLeaveTheirArguments(t *testing.T) {
	worlds := []impl.World{{}, impl.WorldNew(1), impl.WorldNew(8), worldOf(t, 3, resting), busyWorld(t), settled(t), changed(worldOf(t, 3, resting), func(w *impl.World) { slices.Reverse(w.Shards) })}
	lists := [][]impl.Seal{nil, {}, someChain(1), someChain(9), someChain(999)[990:], someChain(1000), {{}}, {sealBy(2, shaOf(), someRoots(2, ""))}, {sealBy(1, shaOf(), nil)}, slices.Repeat(someChain(1), 3)}
	for i, w := range worlds {
		for j, l := range lists {
			what := fmt.Sprint("world ", i, ", list ", j)
			world, list := withSpare(w), withSpare(l)
			worldBefore, listBefore := wholeOf(world), wholeOf(list)
			answers := []any{world, list}
			for range 2 {
				s, ok := impl.NextSeal(list, world)
				if want := chainByHand(l) && len(l) < mostSeals && worldByHand(w) && restingByHand(w); ok != want || impl.ChainOk(list) != chainByHand(l) {
					t.Errorf("%s: NextSeal is %v, ChainOk %v", what, ok, impl.ChainOk(list))
				}
				answers = append(answers, s)
			}
			for k, s := range l {
				if impl.SealOk(list[k]) != sealByHand(s) || impl.SuperOf(list[k].No, list[k].Prev, list[k].Roots) != superBySha(s.No, s.Prev, s.Roots) {
					t.Errorf("%s: seal %d is not answered as without room", what, k)
				}
			}
			asWere := func(when string) {
				if !reflect.DeepEqual(wholeOf(world), worldBefore) || !reflect.DeepEqual(wholeOf(list), listBefore) {
					t.Errorf("%s: %s", what, when)
				}
			}
			asWere("written into")
			shareNothing(t, what, answers...)
			for _, a := range answers[2:] {
				spoilPath(a.(impl.Seal).Roots[:cap(a.(impl.Seal).Roots)])
			}
			asWere("an answer is an argument's own memory")
		}
	}
}

// What lies behind the end of a list is in no seal and in no chain.
func TestWhatLiesBehindTheEndIsNotSealed(t *testing.T) {
	roots := someRoots(9, "behind")
	isSeal(t, "eight of nine", true, sealBy(1, shaOf(), roots[:8]))
	isSeal(t, "none of nine", false, sealBy(1, shaOf(), roots[:0]))
	if impl.SuperOf(1, "", roots[:3]) != superBySha(1, "", slices.Clone(roots[:3])) {
		t.Error("SuperOf goes behind the end")
	}
	list := append(someChain(3), impl.Seal{}, impl.Seal{})
	isChain(t, "zero ones behind", true, list[:3])
	isChain(t, "nothing of it", true, list[:0])
	list = append(list[:0], list[1:3]...)[:0]
	isChain(t, "no chain behind", true, list)
	w := worldOf(t, 3, resting)
	w.Shards[2].Map = pairsOf("c=1 d=1")[:0]
	w.Shards = append(w.Shards, impl.ShardNew(3))[:3]
	if s := seals(t, "pairs and a shard behind", list, w); len(s.Roots) != 3 || s.Roots[2] != rootBySha(nil) {
		t.Errorf("%x", s.Roots)
	}
}
