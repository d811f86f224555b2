package tests

import (
	"math"
	"slices"
	"strings"
	"testing"

	"loop.example/g00244/impl"
)

// proofByHand goes by the chapter's cases, one by one, and takes its paths from the rows of the tree.
func proofByHand(l []impl.Pair, lo string, hi string) impl.Proof {
	below, inside := -1, []int{}
	for i, p := range l {
		if p.Key < lo {
			below = i
		} else if hi == "" || p.Key < hi {
			inside = append(inside, i)
		}
	}
	first, last := below, below+1
	if len(inside) > 0 {
		first, last = inside[0]-1, inside[len(inside)-1]+1
	}
	f := impl.Proof{N: len(l), From: max(first, 0)}
	for i := first; i <= last; i++ {
		if i >= 0 && i < len(l) {
			f.Items = append(f.Items, impl.Item{P: l[i], Path: pathBySha(l, i)})
		}
	}
	if len(f.Items) == 0 {
		f.From = 0
	}
	return f
}

// allProof has all pairs of l as its items.
func allProof(l []impl.Pair) impl.Proof {
	return partProof(l, 0, len(l))
}

// partProof has those from this place on up to the one ahead of end as its items.
func partProof(l []impl.Pair, from int, end int) impl.Proof {
	f := impl.Proof{N: len(l), From: from}
	for i := from; i < end; i++ {
		f.Items = append(f.Items, impl.Item{P: l[i], Path: pathBySha(l, i)})
	}
	return f
}

func rootBySha(l []impl.Pair) string {
	return shaOf("\x02", string([]byte{byte(len(l))}), innerBySha(l))
}

func sameItem(a impl.Item, b impl.Item) bool {
	return a.P == b.P && slices.Equal(a.Path, b.Path)
}

func sameProof(a impl.Proof, b impl.Proof) bool {
	return a.N == b.N && a.From == b.From && slices.EqualFunc(a.Items, b.Items, sameItem)
}

func proofCopy(f impl.Proof) impl.Proof {
	items := []impl.Item{}
	for _, item := range f.Items {
		items = append(items, impl.Item{P: item.P, Path: slices.Clone(item.Path)})
	}
	return impl.Proof{N: f.N, From: f.From, Items: items}
}

// holdsOf says by the pairs themselves, without a digest, whether f is to be taken for their root.
func holdsOf(l []impl.Pair, lo string, hi string, f impl.Proof) bool {
	if f.N != len(l) || f.N == 0 && f.From != 0 {
		return false
	}
	if f.N == 0 || len(f.Items) == 0 {
		return f.N == 0 && len(f.Items) == 0
	}
	for i, item := range f.Items {
		if f.From < 0 || f.From >= len(l) || f.From+i >= len(l) {
			return false
		}
		if !sameItem(item, impl.Item{P: l[f.From+i], Path: pathBySha(l, f.From+i)}) {
			return false
		}
	}
	end := f.From + len(f.Items)
	begins := f.From == 0 || f.Items[0].P.Key < lo
	return begins && (end == len(l) || hi != "" && l[end-1].Key >= hi)
}

func insideByHand(l []impl.Pair, lo string, hi string) []impl.Pair {
	out := []impl.Pair{}
	for _, p := range l {
		if p.Key >= lo && (hi == "" || p.Key < hi) {
			out = append(out, p)
		}
	}
	return out
}

// endsOf: no end, below all, each key, what stands between it and the next one, above all.
func endsOf(l []impl.Pair) []string {
	ends := []string{"", "\x00", "a"}
	for _, p := range l {
		ends = append(ends, p.Key, p.Key+"0")
	}
	return append(ends, "z", "\xff")
}

// fewEndsOf: those of endsOf at both ends of l and in its midst.
func fewEndsOf(l []impl.Pair) []string {
	ends, n := endsOf(l), len(l)
	return append(ends[:7:7], ends[n-1], ends[n], ends[n+1], ends[2*n], ends[2*n+1], ends[2*n+2], ends[2*n+3], ends[2*n+4])
}

func keysOf(l []impl.Pair) string {
	keys := []string{}
	for _, p := range l {
		keys = append(keys, p.Key)
	}
	return strings.Join(keys, " ")
}

func itemKeys(f impl.Proof) string {
	pairs := []impl.Pair{}
	for _, item := range f.Items {
		pairs = append(pairs, item.P)
	}
	return keysOf(pairs)
}

func refused(t *testing.T, what string, root string, lo string, hi string, f impl.Proof) {
	t.Helper()
	if got, ok := impl.CheckBetween(root, lo, hi, f); ok || len(got) != 0 {
		t.Errorf("%s: from %q up to %q of N %d, From %d, %d items: %v %v", what, lo, hi, f.N, f.From, len(f.Items), got, ok)
	}
}

func taken(t *testing.T, what string, root string, lo string, hi string, f impl.Proof, keys string) {
	t.Helper()
	if got, ok := impl.CheckBetween(root, lo, hi, f); !ok || keysOf(got) != keys {
		t.Errorf("%s: from %q up to %q of N %d, From %d, %d items: %v %v", what, lo, hi, f.N, f.From, len(f.Items), got, ok)
	}
}

func TestWhichItemsAreProved(t *testing.T) {
	list := pairsOf("b=1 d=2 f=3 h=4")
	for _, x := range []struct {
		lo, hi string
		from   int
		items  string
		inside string
	}{
		{"", "", 0, "b d f h", "b d f h"}, {"", "z", 0, "b d f h", "b d f h"}, {"a", "", 0, "b d f h", "b d f h"}, {"b", "i", 0, "b d f h", "b d f h"},
		{"b", "h", 0, "b d f h", "b d f"}, {"b", "h0", 0, "b d f h", "b d f h"}, {"c", "", 0, "b d f h", "d f h"}, {"d", "", 0, "b d f h", "d f h"},
		{"d0", "", 1, "d f h", "f h"}, {"", "d", 0, "b d", "b"}, {"", "d0", 0, "b d f", "b d"}, {"d", "f", 0, "b d f", "d"}, {"e", "g", 1, "d f h", "f"},
		{"h", "", 2, "f h", "h"}, {"h", "z", 2, "f h", "h"}, {"b", "b0", 0, "b d", "b"}, {"a", "c", 0, "b d", "b"},
		{"", "a", 0, "b", ""}, {"", "b", 0, "b", ""}, {"a", "b", 0, "b", ""}, {"0", "a", 0, "b", ""},
		{"i", "", 3, "h", ""}, {"i", "z", 3, "h", ""}, {"h0", "", 3, "h", ""},
		{"c", "d", 0, "b d", ""}, {"c", "c0", 0, "b d", ""}, {"e", "f", 1, "d f", ""}, {"d0", "e", 1, "d f", ""}, {"g", "h", 2, "f h", ""},
		{"b", "b", 0, "b", ""}, {"d", "d", 0, "b d", ""}, {"h", "h", 2, "f h", ""}, {"e", "e", 1, "d f", ""},
		{"f", "b", 1, "d f", ""}, {"g", "c", 2, "f h", ""}, {"z", "a", 3, "h", ""}, {"b", "a", 0, "b", ""}, {"c", "a", 0, "b d", ""},
	} {
		f := impl.ProveBetween(list, x.lo, x.hi)
		if f.N != 4 || f.From != x.from || itemKeys(f) != x.items {
			t.Errorf("from %q up to %q: N %d, From %d, items %q", x.lo, x.hi, f.N, f.From, itemKeys(f))
		}
		taken(t, "proved", rootBySha(list), x.lo, x.hi, f, x.inside)
	}
}

func TestProofsOfNoPairsAndOfOne(t *testing.T) {
	one := pairsOf("m=1")
	for _, lo := range []string{"", "a", "m", "m0", "z"} {
		for _, hi := range []string{"", "a", "m", "m0", "z"} {
			if f := impl.ProveBetween(nil, lo, hi); f.N != 0 || f.From != 0 || len(f.Items) != 0 {
				t.Errorf("no pairs from %q up to %q: %v", lo, hi, f)
			}
			taken(t, "no pairs", rootBySha(nil), lo, hi, impl.ProveBetween([]impl.Pair{}, lo, hi), "")
			f := impl.ProveBetween(one, lo, hi)
			if !sameProof(f, impl.Proof{N: 1, Items: []impl.Item{{P: one[0]}}}) {
				t.Errorf("one pair from %q up to %q: %v", lo, hi, f)
			}
			taken(t, "one pair", rootBySha(one), lo, hi, f, keysOf(insideByHand(one, lo, hi)))
		}
	}
}

func TestWhatIsProvedIsAllThatIsBetween(t *testing.T) {
	for _, n := range []int{0, 1, 2, 3, 4, 5, 7, 8, 9, 12} {
		list := manyPairs(n)
		proofsHold(t, list, endsOf(list))
	}
	for _, n := range []int{17, 32, 33, 59, impl.MaxPairs} {
		list := manyPairs(n)
		proofsHold(t, list, fewEndsOf(list))
	}
	for _, text := range pairLists {
		if list := pairsOf(text); impl.PairsOk(list) {
			proofsHold(t, list, someKeys)
		}
	}
}

func proofsHold(t *testing.T, list []impl.Pair, ends []string) {
	t.Helper()
	root := rootBySha(list)
	for _, lo := range ends {
		for _, hi := range ends {
			f := impl.ProveBetween(list, lo, hi)
			if !sameProof(f, proofByHand(list, lo, hi)) {
				t.Errorf("%d pairs from %q up to %q: N %d, From %d, items %q", len(list), lo, hi, f.N, f.From, itemKeys(f))
			}
			got, ok := impl.CheckBetween(root, lo, hi, f)
			if !ok || !slices.Equal(got, insideByHand(list, lo, hi)) || !slices.Equal(got, impl.Between(list, lo, hi)) {
				t.Errorf("%d pairs from %q up to %q are told to be %v, %v", len(list), lo, hi, got, ok)
			}
		}
	}
}

func TestAllOfMaxPairsIsProved(t *testing.T) {
	list := manyPairs(impl.MaxPairs)
	f := impl.ProveBetween(list, "", "")
	if len(f.Items) != 60 || f.N != 60 || f.From != 0 {
		t.Errorf("N %d, From %d, %d items", f.N, f.From, len(f.Items))
	}
	root, _ := impl.UnHex(manyRoots[len(manyRoots)-1].digits)
	got, ok := impl.CheckBetween(root, "", "", f)
	if !ok || !slices.Equal(got, list) {
		t.Errorf("%v, %v", got, ok)
	}
	last := impl.ProveBetween(list, "k59a", "")
	if last.From != 58 || len(last.Items) != 2 {
		t.Errorf("the last one: From %d, %d items", last.From, len(last.Items))
	}
	taken(t, "the last one", root, "k59a", "", last, "k59a")
}

func TestWrongPairsHaveTheZeroProof(t *testing.T) {
	lists := [][]impl.Pair{manyPairs(impl.MaxPairs + 1), manyPairs(99)}
	for _, text := range []string{
		"a=1 a=2", "b=1 a=2", "a=1 c=2 b=3", "=1", "=1 a=2", "A=1 a=2", "a=1 {=2", "thirteensigns=1", "a=123456789012345678901", "a=1 b=123456789012345678901", "b=1 d=2 b=3",
	} {
		lists = append(lists, pairsOf(text))
	}
	for _, list := range lists {
		for _, lo := range []string{"", "a", "b", "z"} {
			for _, hi := range []string{"", "a", "b", "z"} {
				f := impl.ProveBetween(list, lo, hi)
				if f.N != 0 || f.From != 0 || len(f.Items) != 0 {
					t.Errorf("%v from %q up to %q: %v", list[:min(len(list), 3)], lo, hi, f)
				}
				refused(t, "wrong pairs", impl.RootOf(list), lo, hi, f)
			}
		}
	}
}

// bentProofs: f with an item left out, put twice, changed or out of order, with another N, another From, another path, the one ahead or the one behind taken away.
func bentProofs(f impl.Proof) []impl.Proof {
	bent := []impl.Proof{}
	bend := func(how func(f *impl.Proof)) {
		other := proofCopy(f)
		how(&other)
		if !sameProof(other, f) {
			bent = append(bent, other)
		}
	}
	for i := range f.Items {
		bend(func(f *impl.Proof) { f.Items = slices.Delete(f.Items, i, i+1) })
		bend(func(f *impl.Proof) { f.Items = slices.Delete(f.Items, i, i+1); f.From++ })
		bend(func(f *impl.Proof) { f.Items = slices.Insert(f.Items, i, f.Items[i]) })
		bend(func(f *impl.Proof) { f.Items = slices.Insert(f.Items, i, f.Items[i]); f.From = max(f.From-1, 0) })
		bend(func(f *impl.Proof) { f.Items = slices.Insert(f.Items, i, impl.Item{}) })
		bend(func(f *impl.Proof) { f.Items[i] = impl.Item{} })
		bend(func(f *impl.Proof) { f.Items[i].P.Key += "0" })
		bend(func(f *impl.Proof) { f.Items[i].P.Key = f.Items[i].P.Key[:1] })
		bend(func(f *impl.Proof) { f.Items[i].P.Val += "x" })
		bend(func(f *impl.Proof) { f.Items[i].P = impl.Pair{} })
		bend(func(f *impl.Proof) { f.Items[i].Path = nil })
		bend(func(f *impl.Proof) { f.Items[i].Path = append(f.Items[i].Path, shaOf()) })
		bend(func(f *impl.Proof) { f.Items[i].Path = append([]string{shaOf()}, f.Items[i].Path...) })
		for at := range f.Items[i].Path {
			bend(func(f *impl.Proof) { f.Items[i].Path[at] = turnedText(f.Items[i].Path[at], at) })
			bend(func(f *impl.Proof) { f.Items[i].Path[at] = "" })
			bend(func(f *impl.Proof) { f.Items[i].Path = slices.Delete(f.Items[i].Path, at, at+1) })
		}
		for j := range i {
			bend(func(f *impl.Proof) { f.Items[i], f.Items[j] = f.Items[j], f.Items[i] })
			bend(func(f *impl.Proof) { f.Items[i].P, f.Items[j].P = f.Items[j].P, f.Items[i].P })
			bend(func(f *impl.Proof) { f.Items[i].Path, f.Items[j].Path = f.Items[j].Path, f.Items[i].Path })
			bend(func(f *impl.Proof) { f.Items[i].P = f.Items[j].P })
			bend(func(f *impl.Proof) { f.Items = f.Items[j+1 : i] })
			bend(func(f *impl.Proof) { f.Items = f.Items[j+1 : i]; f.From += j + 1 })
		}
	}
	for _, step := range []int{-61, -60, -8, -4, -2, -1, 1, 2, 3, 4, 8, 52, 56, 60, 64, 128, math.MinInt, math.MaxInt} {
		bend(func(f *impl.Proof) { f.N += step })
		bend(func(f *impl.Proof) { f.From += step })
	}
	bend(func(f *impl.Proof) { f.N = 0 })
	bend(func(f *impl.Proof) { f.N, f.From, f.Items = 0, 0, nil })
	bend(func(f *impl.Proof) { f.Items = nil })
	bend(func(f *impl.Proof) { f.Items, f.From = nil, 0 })
	bend(func(f *impl.Proof) { slices.Reverse(f.Items) })
	return bent
}

func TestBentProofsAreRefused(t *testing.T) {
	for _, n := range []int{1, 2, 3, 4, 5, 7} {
		list := manyPairs(n)
		root := rootBySha(list)
		for _, lo := range endsOf(list) {
			for _, hi := range endsOf(list) {
				if hi == "" || lo <= hi {
					for i, f := range bentProofs(impl.ProveBetween(list, lo, hi)) {
						if holdsOf(list, lo, hi, f) {
							t.Errorf("bent proof %d of %d pairs from %q up to %q is none", i, n, lo, hi)
						}
						refused(t, "bent", root, lo, hi, f)
					}
				}
			}
		}
	}
	list := manyPairs(impl.MaxPairs)
	for _, x := range []struct{ lo, hi string }{{"", "k01a"}, {"k30a", "k32a"}, {"k31b", "k32"}, {"k58a", ""}, {"z", ""}} {
		for _, f := range bentProofs(impl.ProveBetween(list, x.lo, x.hi)) {
			refused(t, "bent", rootBySha(list), x.lo, x.hi, f)
		}
	}
}

func TestAnotherRootIsRefused(t *testing.T) {
	for _, n := range []int{0, 1, 2, 5, impl.MaxPairs} {
		list := manyPairs(n)
		root := rootBySha(list)
		others := []string{"", root[:31], root[1:], root + "\x00", "\x00" + root, root + root, impl.InnerOf(list), shaOf(), impl.HexOf(root), rootBySha(manyPairs(n + 1)), rootBySha(pairsOf("other=1"))}
		for at := range root {
			others = append(others, turnedText(root, at))
		}
		if n > 0 {
			list[n-1].Val += "x"
			others = append(others, rootBySha(list), rootBySha(manyPairs(n-1)))
		}
		for _, x := range []struct{ lo, hi string }{{"", ""}, {"", "a"}, {"k00a", "k01a"}, {"z", ""}} {
			f := impl.ProveBetween(manyPairs(n), x.lo, x.hi)
			for _, other := range others {
				refused(t, "another root", other, x.lo, x.hi, f)
			}
			taken(t, "its root", root, x.lo, x.hi, f, keysOf(insideByHand(manyPairs(n), x.lo, x.hi)))
		}
	}
}

// Any stretch of the pairs is a proof of what lies within it, of whatever ends, and of nothing that goes beyond it.
func TestProofsOfOtherEnds(t *testing.T) {
	for _, n := range []int{1, 2, 3, 5} {
		list := manyPairs(n)
		for from := range n {
			for end := from; end <= n; end++ {
				f := partProof(list, from, end)
				for _, lo := range endsOf(list) {
					for _, hi := range endsOf(list) {
						if holdsOf(list, lo, hi, f) {
							taken(t, "a stretch", rootBySha(list), lo, hi, f, keysOf(insideByHand(list, lo, hi)))
						} else {
							refused(t, "a stretch", rootBySha(list), lo, hi, f)
						}
					}
				}
			}
		}
	}
}

func TestTheOnesBeside(t *testing.T) {
	list := pairsOf("b=1 d=2 f=3 h=4")
	root := rootBySha(list)
	for _, x := range []struct {
		from, end int
		lo, hi    string
		inside    string
	}{
		{0, 3, "d", "f", "d"}, {0, 4, "d", "f", "d"}, {0, 3, "c", "f", "d"}, {0, 3, "b0", "f", "d"}, {0, 3, "", "f", "b d"}, {0, 3, "d", "d0", "d"},
		{1, 3, "d0", "f", ""}, {1, 4, "e", "", "f h"}, {1, 2, "e", "d", ""}, {1, 2, "z", "b", ""}, {3, 4, "i", "", ""}, {3, 4, "z", "a", ""}, {0, 1, "", "b", ""}, {0, 1, "a", "a", ""},
	} {
		taken(t, "beside", root, x.lo, x.hi, partProof(list, x.from, x.end), x.inside)
	}
	for _, x := range []struct {
		from, end int
		lo, hi    string
	}{
		{1, 3, "d", "f"}, {1, 3, "c", "f"}, {1, 3, "", "f"}, {1, 4, "d", ""}, {2, 4, "", ""}, {3, 4, "h", ""}, {3, 4, "g", "z"}, {1, 3, "a", "f"},
		{0, 3, "d", "f0"}, {0, 3, "d", "g"}, {0, 3, "d", "h"}, {0, 3, "d", ""}, {0, 3, "", ""}, {0, 1, "", "c"}, {0, 1, "", "b0"}, {1, 2, "e", ""}, {1, 2, "e", "f"},
		{0, 0, "", ""}, {0, 0, "", "a"}, {2, 2, "f", "f"}, {1, 1, "z", "a"},
	} {
		refused(t, "beside", root, x.lo, x.hi, partProof(list, x.from, x.end))
	}
}

func TestProofsWithWrongNumbers(t *testing.T) {
	none := rootBySha(nil)
	item := impl.Item{P: impl.Pair{Key: "a", Val: "1"}}
	for _, f := range []impl.Proof{{From: 1}, {From: -1}, {From: math.MaxInt}, {Items: []impl.Item{item}}, {Items: []impl.Item{{}}}, {From: 1, Items: []impl.Item{item}}, {N: 1}, {N: -1}, {N: 60}, {N: 61}, {N: math.MinInt}, {N: math.MaxInt}} {
		refused(t, "of no pairs", none, "", "", f)
		refused(t, "of no pairs", none, "a", "b", f)
	}
	taken(t, "of no pairs", none, "a", "b", impl.Proof{Items: []impl.Item{}}, "")
	root := shaOf("\x02\x00", leafBySha(item.P))
	refused(t, "of N 0 with an item", root, "", "", impl.Proof{Items: []impl.Item{item}})
	for _, n := range []int{-1, -60, 61, 64, 128, math.MinInt, math.MaxInt} {
		root := shaOf("\x02", string(impl.PutNum(nil, n)), leafBySha(item.P))
		for _, from := range []int{0, -1, 1, n, n - 1} {
			refused(t, "a number no list has", root, "", "", impl.Proof{N: n, From: from, Items: []impl.Item{item}})
			refused(t, "a number no list has", root, "", "", impl.Proof{N: n, From: from})
		}
	}
	many := manyPairs(61)
	refused(t, "one more than MaxPairs", rootBySha(many), "", "", allProof(many))
	refused(t, "one more than MaxPairs", rootBySha(many), "", "k02a", partProof(many, 0, 3))
}

func TestItemsThatAreNotRight(t *testing.T) {
	for _, text := range []string{"=1", "A=1", "a=1 b-=2", "a=1 {=2", "=1 a=2", "thirteensigns=1", "a=1 thirteensigns=2", "a=123456789012345678901", "a=1 b=123456789012345678901 c=2"} {
		list := pairsOf(text)
		refused(t, text, rootBySha(list), "", "", allProof(list))
		refused(t, text, rootBySha(list), "", "zz", allProof(list))
	}
	for _, text := range []string{"b=1 a=2", "a=1 a=2", "a=1 a=1", "a=1 c=2 b=3", "b=1 a=2 c=3", "a=1 b=2 b=3", "a=1 b=2 a=3 c=4", "b=1 ba=2 b9=3"} {
		list := pairsOf(text)
		refused(t, text, rootBySha(list), "", "", allProof(list))
		refused(t, text, rootBySha(list), "a", "b", allProof(list))
	}
	// What does not rise, or is no pair, counts among the items alone: of the others nothing is told.
	list := pairsOf("b=1 d=2 f=3 c=4 A=5")
	taken(t, "others that do not rise", rootBySha(list), "", "d", partProof(list, 0, 2), "b")
	taken(t, "others that do not rise", rootBySha(list), "d", "f", partProof(list, 0, 3), "d")
	refused(t, "items that do not rise", rootBySha(list), "d", "f", partProof(list, 0, 4))
	refused(t, "an item that is no pair", rootBySha(list), "d", "", partProof(list, 4, 5))
}

func TestProvingLeavesItsPairs(t *testing.T) {
	for _, n := range []int{0, 1, 2, 5, 33, impl.MaxPairs} {
		list := manyPairs(n)
		given, whole := pairsWithRoom(list)
		before := slices.Clone(whole)
		for _, x := range []struct{ lo, hi string }{{"", ""}, {"a", "zz"}, {"k00a", "k01a"}, {"z", ""}, {"z", "a"}, {"", "a"}} {
			f := impl.ProveBetween(given, x.lo, x.hi)
			if !sameProof(f, proofByHand(list, x.lo, x.hi)) {
				t.Errorf("%d pairs from %q up to %q: what lies behind them counts", n, x.lo, x.hi)
			}
			again := impl.ProveBetween(given, x.lo, x.hi)
			for i, item := range again.Items {
				spoilPath(item.Path)
				again.Items[i] = impl.Item{}
				for j := i + 1; j < len(again.Items); j++ {
					if !sameItem(again.Items[j], f.Items[j]) {
						t.Errorf("%d pairs: the paths of %d and %d share memory", n, i, j)
					}
				}
			}
			if !sameProof(f, proofByHand(list, x.lo, x.hi)) {
				t.Errorf("%d pairs from %q up to %q: two proofs share memory", n, x.lo, x.hi)
			}
		}
		if !slices.Equal(whole, before) {
			t.Errorf("%d pairs were written into", n)
		}
	}
}

// spoilPath writes into a path and all the room behind it.
func spoilPath(path []string) {
	whole := path[:cap(path)]
	for i := range whole {
		whole[i] = "other"
	}
}

func TestCheckingLeavesTheProof(t *testing.T) {
	for _, n := range []int{1, 2, 5, 33, impl.MaxPairs} {
		list := manyPairs(n)
		root := rootBySha(list)
		all, before := allProof(list), allProof(list)
		for i, item := range all.Items {
			path := append(slices.Clone(item.Path), "room", shaOf())
			all.Items[i].Path = path[:len(item.Path)]
			before.Items[i].Path = slices.Clone(path)
		}
		got, ok := impl.CheckBetween(root, "", "", all)
		if !ok || !slices.Equal(got, list) {
			t.Errorf("%d pairs, with room behind the paths: %v", n, ok)
		}
		for i := range got[:cap(got)] {
			got[:cap(got)][i] = impl.Pair{Key: "other"}
		}
		for end := range n {
			part := impl.Proof{N: n, Items: all.Items[:end]}
			refused(t, "items behind the list's length", root, "", "", part)
		}
		impl.CheckBetween(root, "k00a", "k01a", all)
		impl.CheckBetween("", "", "", all)
		for i, item := range all.Items {
			if whole := item.Path[:len(before.Items[i].Path)]; item.P != list[i] || !slices.Equal(whole, before.Items[i].Path) {
				t.Errorf("item %d of %d was written into", i, n)
			}
		}
	}
}
