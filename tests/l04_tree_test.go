package tests

import (
	"crypto/sha256"
	"math"
	"slices"
	"strings"
	"testing"

	"loop.example/g00244/impl"
)

// manyRoots: the roots of manyPairs, worked out by another program.
var manyRoots = []struct {
	n      int
	digits string
}{
	{0, "8f4e03683c1601a1d3a07f9efd6e7de0737273ea6c58ac13919cd962c87ed088"},
	{1, "b8c302f3bffdfde3f906615b5e73b43762a487456d4ca87d51b482c9797bd9bf"},
	{2, "c058daddca6c369b4dbe240d3471269592bb154f31162c84d193fab64acd1674"},
	{3, "228f9dc2efaa323500ae7d8e07515774b3de7bd2e0937d2702f4ea4ca5511bd1"},
	{4, "b54f084ffe8511d4ee5ddaca69ec11741099ccdecbe1bd14f4fd2b47bbff03db"},
	{5, "a5e679bfddb7b8f32634f1f02b0b89982a20a52154adde5176ee6ff317cce8d2"},
	{8, "28853d157d60c8ff0dab95493aed918a54139becfe5ae051fab41b413e1aca0e"},
	{9, "821f79e01c5b491aeb091fb8f057e6f1c8bfe48c7e48684fd75deefa976268ed"},
	{16, "3f4a8df69714a04b2329a7f8ca1e5905c11ceb3faf198d51aa07e663acb5f1e4"},
	{17, "476a074692c24d86a05b78ea2e1a8ff3233af5ba9dd37ae945807aaa293cabf0"},
	{32, "ac4763ffcb33458094233340be079336067a93565afbb2949192d3b7c807916c"},
	{33, "60806f8ceaf0179d230f3cff52646f20d2dcdbf4cc5ab817935c13b253a3351e"},
	{59, "6d22ccc86e10aad4589dab1709b1db075c1aba010ef9184658afed86bd6aba96"},
	{60, "d3271ddf092166b7337dffe5b1c945c0afb2c2240a154d93358d93262810e000"},
}

// treeSizes: those that the chapter names, and each power of 2 with its neighbours.
var treeSizes = []int{1, 2, 3, 4, 5, 6, 7, 8, 9, 15, 16, 17, 31, 32, 33, 59, impl.MaxPairs}

func shaOf(parts ...string) string {
	sum := sha256.Sum256([]byte(strings.Join(parts, "")))
	return string(sum[:])
}

func leafBySha(p impl.Pair) string {
	return shaOf("\x00", string([]byte{byte(len(p.Key))}), p.Key, string([]byte{byte(len(p.Val))}), p.Val)
}

// innerBySha works from the leaves upwards, not from cuts: two of a row make one of the next; who is alone goes up as it is.
func innerBySha(l []impl.Pair) string {
	row := []string{}
	for _, p := range l {
		row = append(row, leafBySha(p))
	}
	if len(row) == 0 {
		return shaOf()
	}
	for len(row) > 1 {
		next := []string{}
		for i := 0; i+1 < len(row); i += 2 {
			next = append(next, shaOf("\x01", row[i], row[i+1]))
		}
		if len(row)%2 == 1 {
			next = append(next, row[len(row)-1])
		}
		row = next
	}
	return row[0]
}

// pathBySha, too, works by rows: who has no neighbour in a row has no step there.
func pathBySha(l []impl.Pair, i int) []string {
	path := []string{}
	for size := 1; size < len(l); size *= 2 {
		neighbour := (i/size ^ 1) * size
		if neighbour < len(l) {
			path = append(path, innerBySha(l[neighbour:min(neighbour+size, len(l))]))
		}
	}
	return path
}

// turnedText is s with one bit other.
func turnedText(s string, at int) string {
	b := []byte(s)
	b[at] ^= 1 << (at % 8)
	return string(b)
}

func TestLeavesAndNodes(t *testing.T) {
	for _, p := range []impl.Pair{{}, {Key: "a"}, {Val: "1"}, {Key: "a", Val: "1"}, {Key: "abcdefghijkl", Val: "12345678901234567890"}, {Key: "A b", Val: strings.Repeat("\xff", 100)}} {
		if got := impl.LeafOf(p); got != leafBySha(p) {
			t.Errorf("LeafOf(%q) = %x", p, got)
		}
	}
	long := impl.Pair{Key: strings.Repeat("k", 128), Val: strings.Repeat("v", 300)}
	if got := impl.LeafOf(long); got != shaOf("\x00\x80\x01", long.Key, "\xac\x02", long.Val) {
		t.Errorf("LeafOf long texts = %x", got)
	}
	for _, x := range []struct{ a, b string }{{"", ""}, {"a", ""}, {"", "b"}, {"a", "b"}, {shaOf("a"), shaOf("b")}, {mixedText(100), "\x00"}} {
		if got := impl.NodeOf(x.a, x.b); got != shaOf("\x01", x.a, x.b) {
			t.Errorf("NodeOf(%q, %q) = %x", x.a, x.b, got)
		}
	}
	if impl.LeafOf(impl.Pair{Key: "ab", Val: "c"}) == impl.LeafOf(impl.Pair{Key: "a", Val: "bc"}) {
		t.Error("where a key ends does not count")
	}
	if impl.NodeOf("a", "b") == impl.NodeOf("b", "a") {
		t.Error("the order of a node's parts does not count")
	}
}

func TestRootsAreAsWorkedOutElsewhere(t *testing.T) {
	for _, x := range manyRoots {
		if got := impl.HexOf(impl.RootOf(manyPairs(x.n))); got != x.digits {
			t.Errorf("RootOf %d pairs = %s", x.n, got)
		}
	}
	if impl.RootOf(nil) != shaOf("\x02\x00", shaOf()) || impl.InnerOf(nil) != shaOf() {
		t.Error("the root of no pairs")
	}
}

func TestRootsOfAllSizes(t *testing.T) {
	sizes := map[string]int{}
	for n := range impl.MaxPairs + 1 {
		list := manyPairs(n)
		inner := innerBySha(list)
		if got := impl.InnerOf(list); got != inner {
			t.Errorf("InnerOf %d pairs = %x", n, got)
		}
		root := impl.RootOf(list)
		if root != shaOf("\x02", string([]byte{byte(n)}), inner) {
			t.Errorf("RootOf %d pairs = %x", n, root)
		}
		if other, there := sizes[root]; there {
			t.Errorf("%d pairs have the root of %d", n, other)
		}
		sizes[root] = n
	}
	for _, n := range []int{impl.MaxPairs + 1, impl.MaxPairs + 4, 64, 65, 99} {
		if impl.InnerOf(manyPairs(n)) != "" || impl.RootOf(manyPairs(n)) != "" {
			t.Errorf("%d pairs have a root", n)
		}
	}
}

func TestRootsOfListsThatDoNotRise(t *testing.T) {
	for _, text := range pairLists {
		list := pairsOf(text)
		if impl.InnerOf(list) != innerBySha(list) {
			t.Errorf("InnerOf %q", text)
		}
		if impl.RootOf(list) != shaOf("\x02", string([]byte{byte(len(list))}), innerBySha(list)) {
			t.Errorf("RootOf %q", text)
		}
		for i := range list {
			path := impl.PathOf(list, i)
			if !slices.Equal(path, pathBySha(list, i)) || !impl.CheckPath(list[i], i, len(list), path, impl.RootOf(list)) {
				t.Errorf("PathOf %d in %q = %x", i, text, path)
			}
		}
	}
}

func TestEachPairHasItsPath(t *testing.T) {
	for n := range impl.MaxPairs + 1 {
		list := manyPairs(n)
		root := impl.RootOf(list)
		for i := range list {
			path := impl.PathOf(list, i)
			if !slices.Equal(path, pathBySha(list, i)) {
				t.Errorf("PathOf %d of %d = %x", i, n, path)
			}
			if !impl.CheckPath(list[i], i, n, path, root) {
				t.Errorf("%d of %d is not checked by its path", i, n)
			}
		}
	}
}

func TestHowLongPathsAre(t *testing.T) {
	for _, x := range []struct{ n, i, size int }{
		{1, 0, 0}, {2, 0, 1}, {2, 1, 1}, {3, 0, 2}, {3, 1, 2}, {3, 2, 1}, {4, 0, 2}, {4, 3, 2}, {5, 0, 3}, {5, 3, 3}, {5, 4, 1}, {6, 4, 2}, {7, 6, 2},
		{8, 7, 3}, {9, 8, 1}, {9, 7, 4}, {32, 31, 5}, {33, 32, 1}, {33, 31, 6}, {60, 0, 6}, {60, 31, 6}, {60, 32, 6}, {60, 55, 6}, {60, 56, 5}, {60, 59, 5},
	} {
		if got := len(impl.PathOf(manyPairs(x.n), x.i)); got != x.size {
			t.Errorf("PathOf %d of %d has %d", x.i, x.n, got)
		}
	}
}

func TestPathsOfNoPlace(t *testing.T) {
	for _, n := range append([]int{0}, treeSizes...) {
		for _, i := range []int{-1, -n, n, n + 1, math.MinInt, math.MaxInt} {
			if got := impl.PathOf(manyPairs(n), i); len(got) != 0 && (i < 0 || i >= n) {
				t.Errorf("PathOf %d of %d = %x", i, n, got)
			}
		}
	}
	for _, n := range []int{impl.MaxPairs + 1, 64, 99} {
		for _, i := range []int{0, 1, 31, 59, 60, n - 1, n} {
			if got := impl.PathOf(manyPairs(n), i); len(got) != 0 {
				t.Errorf("PathOf %d of %d = %x", i, n, got)
			}
		}
	}
	if len(impl.PathOf(nil, 0)) != 0 {
		t.Error("no pairs have a path")
	}
}

func TestAnotherPairIsNotChecked(t *testing.T) {
	for _, n := range treeSizes {
		list := manyPairs(n)
		root := impl.RootOf(list)
		for i, p := range list {
			path := impl.PathOf(list, i)
			others := []impl.Pair{{}, {Key: p.Key, Val: p.Val + "x"}, {Key: p.Key + "x", Val: p.Val}, {Key: p.Key + p.Val}, {Val: p.Key + p.Val}, {Key: p.Val, Val: p.Key}}
			for j, other := range list {
				if j != i {
					others = append(others, other)
				}
			}
			for _, other := range others {
				if other != p && impl.CheckPath(other, i, n, path, root) {
					t.Errorf("%q is checked as %d of %d", other, i, n)
				}
			}
		}
	}
}

func TestAnotherPlaceIsNotChecked(t *testing.T) {
	for _, n := range treeSizes {
		list := manyPairs(n)
		root := impl.RootOf(list)
		for i, p := range list {
			path := impl.PathOf(list, i)
			for j := -2; j < n+3; j++ {
				if j != i && impl.CheckPath(p, j, n, path, root) {
					t.Errorf("%d of %d is checked at %d", i, n, j)
				}
			}
			for _, j := range []int{math.MinInt, math.MaxInt, i + 64, i - 64} {
				if impl.CheckPath(p, j, n, path, root) {
					t.Errorf("%d of %d is checked at %d", i, n, j)
				}
			}
		}
	}
}

func TestAnotherNumberIsNotChecked(t *testing.T) {
	for _, n := range treeSizes {
		list := manyPairs(n)
		root := impl.RootOf(list)
		for i, p := range list {
			path := impl.PathOf(list, i)
			for m := -1; m < 70; m++ {
				if m != n && impl.CheckPath(p, i, m, path, root) {
					t.Errorf("%d of %d is checked as one of %d", i, n, m)
				}
			}
			for _, m := range []int{math.MinInt, math.MaxInt, n + 128, n + 1<<32} {
				if impl.CheckPath(p, i, m, path, root) {
					t.Errorf("%d of %d is checked as one of %d", i, n, m)
				}
			}
		}
	}
}

// A number that is not 1 .. MaxPairs is refused even where a root fits what would come of it.
func TestNumbersThatNoTreeHas(t *testing.T) {
	p := impl.Pair{Key: "a", Val: "1"}
	for _, n := range []int{0, -1, 61, 64, 127} {
		root := shaOf("\x02", string([]byte{byte(max(n, 0))}), leafBySha(p))
		for _, i := range []int{-1, 0, n - 1, n} {
			if impl.CheckPath(p, i, n, nil, root) {
				t.Errorf("%d of %d is checked", i, n)
			}
		}
	}
	list := manyPairs(61)
	last := shaOf("\x02\x3d", innerBySha(list))
	for i, p := range list {
		if impl.CheckPath(p, i, 61, pathBySha(list, i), last) {
			t.Errorf("%d of one more than MaxPairs is checked", i)
		}
	}
}

func TestAnotherPathIsNotChecked(t *testing.T) {
	for _, n := range treeSizes {
		list := manyPairs(n)
		root := impl.RootOf(list)
		for i, p := range list {
			path := impl.PathOf(list, i)
			others := [][]string{append(slices.Clone(path), shaOf()), append(slices.Clone(path), ""), append([]string{""}, path...), append([]string{shaOf()}, path...)}
			for at := range path {
				others = append(others, slices.Delete(slices.Clone(path), at, at+1), slices.Insert(slices.Clone(path), at, path[at]))
				for _, text := range []string{turnedText(path[at], at), path[at][1:], path[at][:31], path[at] + "\x00", "\x00" + path[at], "", shaOf()} {
					other := slices.Clone(path)
					other[at] = text
					others = append(others, other)
				}
			}
			if len(path) > 1 {
				turned := slices.Clone(path)
				slices.Reverse(turned)
				others = append(others, turned)
			}
			for _, other := range others {
				if impl.CheckPath(p, i, n, other, root) {
					t.Errorf("%d of %d is checked by %x", i, n, other)
				}
			}
			if n > 1 && (impl.CheckPath(p, i, n, nil, root) || impl.CheckPath(p, i, n, []string{}, root)) {
				t.Errorf("%d of %d is checked by no path", i, n)
			}
		}
	}
}

// Two digests that are put into one text are hashed as they would be apart, and still are one of the path less.
func TestPathsWithTextsPutTogether(t *testing.T) {
	list := manyPairs(2)
	root := impl.RootOf(list)
	node := impl.InnerOf(list)
	if impl.CheckPath(list[0], 0, 1, nil, root) || impl.CheckPath(list[0], 0, 2, []string{node}, root) {
		t.Error("two are taken for one")
	}
	both := impl.LeafOf(list[0]) + impl.LeafOf(list[1])
	if impl.CheckPath(list[0], 0, 2, []string{both}, root) || impl.CheckPath(list[1], 1, 2, []string{both}, root) {
		t.Error("two digests are taken for one")
	}
}

func TestAnotherRootIsNotChecked(t *testing.T) {
	for _, n := range treeSizes {
		list := manyPairs(n)
		root := impl.RootOf(list)
		for _, i := range []int{0, n / 2, n - 1} {
			path := impl.PathOf(list, i)
			others := []string{"", root[:31], root[1:], root + "\x00", "\x00" + root, root + root, impl.InnerOf(list), impl.LeafOf(list[i]), shaOf(), impl.HexOf(root)}
			for at := range root {
				others = append(others, turnedText(root, at))
			}
			for _, other := range others {
				if impl.CheckPath(list[i], i, n, path, other) {
					t.Errorf("%d of %d is checked by the root %x", i, n, other)
				}
			}
		}
	}
	if impl.CheckPath(impl.Pair{}, 0, 0, nil, "") || impl.CheckPath(impl.Pair{}, 0, 0, nil, impl.RootOf(nil)) || impl.CheckPath(impl.Pair{}, 0, 61, nil, impl.RootOf(manyPairs(61))) {
		t.Error("one of no pairs is checked")
	}
}

func TestOneOtherPairIsAnotherRoot(t *testing.T) {
	for _, n := range treeSizes {
		root := impl.RootOf(manyPairs(n))
		for i := range n {
			list := manyPairs(n)
			list[i].Val += "x"
			if impl.RootOf(list) == root || impl.InnerOf(list) == impl.InnerOf(manyPairs(n)) {
				t.Errorf("another %d of %d has the same root", i, n)
			}
			if i > 0 {
				list = manyPairs(n)
				list[i-1], list[i] = list[i], list[i-1]
				if impl.RootOf(list) == root {
					t.Errorf("%d of %d turned with the one ahead has the same root", i, n)
				}
			}
		}
	}
}

func TestTreesLeaveTheirArguments(t *testing.T) {
	for _, n := range append([]int{0}, treeSizes...) {
		list := manyPairs(n)
		given, whole := pairsWithRoom(list)
		before := slices.Clone(whole)
		if impl.InnerOf(given) != innerBySha(list) || impl.RootOf(given) != impl.RootOf(list) {
			t.Errorf("the root of %d pairs hangs on what lies behind them", n)
		}
		for _, i := range []int{-1, 0, n / 2, n - 1, n, n + 1} {
			path := impl.PathOf(given, i)
			want := slices.Clone(path)
			if !slices.Equal(path, impl.PathOf(list, i)) {
				t.Errorf("PathOf %d of %d hangs on what lies behind", i, n)
			}
			again := impl.PathOf(given, i)
			for at := range again[:cap(again)] {
				again[:cap(again)][at] = "other"
			}
			if !slices.Equal(path, want) {
				t.Errorf("two answers of PathOf %d of %d share memory", i, n)
			}
		}
		if !slices.Equal(whole, before) {
			t.Errorf("%d pairs were written into", n)
		}
	}
}

func TestCheckingLeavesThePath(t *testing.T) {
	for _, n := range treeSizes {
		list := manyPairs(n)
		root := impl.RootOf(list)
		for i, p := range list {
			path := impl.PathOf(list, i)
			whole := append(slices.Clone(path), path...)
			whole = append(whole, "room", "")
			before := slices.Clone(whole)
			if !impl.CheckPath(p, i, n, whole[:len(path)], root) {
				t.Errorf("%d of %d is not checked, with room behind its path", i, n)
			}
			if len(path) > 0 && impl.CheckPath(p, i, n, whole[:len(path)-1], root) {
				t.Errorf("%d of %d: what lies behind the path was read", i, n)
			}
			if !slices.Equal(whole, before) {
				t.Errorf("%d of %d: the path was written into", i, n)
			}
		}
	}
}
