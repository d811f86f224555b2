package tests

import (
	"fmt"
	"math"
	"math/rand"
	"reflect"
	"slices"
	"strings"
	"testing"

	"loop.example/g00244/impl"
)

// shardPairs gives so many pairs that rise, whose keys are all of this shard of n.
func shardPairs(at int, n int, count int) []impl.Pair {
	list := []impl.Pair{}
	for i := 0; len(list) < count; i++ {
		if key := fmt.Sprintf("k%04d", i); shardByFnv(key, n) == at {
			list = append(list, impl.Pair{Key: key, Val: strings.Repeat("v", i%21)})
		}
	}
	return list
}

// tablesBy gives a table for each count, with so many pairs that are its own.
func tablesBy(counts ...int) []impl.Table {
	list := []impl.Table{}
	for at, count := range counts {
		list = append(list, impl.Table{Pairs: shardPairs(at, len(counts), count)})
	}
	return list
}

// tablesIn reads tables: a=1 b=2; c=3 for two of them.
func tablesIn(text string) []impl.Table {
	list := []impl.Table{}
	for _, part := range strings.Split(text, ";") {
		list = append(list, impl.Table{Pairs: pairsOf(part)})
	}
	return list
}

func tableRoots(l []impl.Table) []string {
	list := []string{}
	for _, table := range l {
		list = append(list, rootBySha(table.Pairs))
	}
	return list
}

// sealedBy is the first seal of these tables, be they of their shards or not.
func sealedBy(l []impl.Table) impl.Seal {
	return sealBy(1, shaOf(), tableRoots(l))
}

// allIn gives all pairs of all tables, in the order of their keys.
func allIn(l []impl.Table) []impl.Pair {
	m := map[string]string{}
	for _, table := range l {
		for _, p := range table.Pairs {
			m[p.Key] = p.Val
		}
	}
	return pairsByHand(m)
}

func sameTable(a impl.Table, b impl.Table) bool {
	return slices.Equal(a.Pairs, b.Pairs)
}

func sameBundle(a impl.Bundle, b impl.Bundle) bool {
	return a.No == b.No && a.Prev == b.Prev && slices.Equal(a.Roots, b.Roots) && slices.EqualFunc(a.Proofs, b.Proofs, sameProof)
}

func copyBundle(b impl.Bundle) impl.Bundle {
	proofs := []impl.Proof{}
	for _, f := range b.Proofs {
		proofs = append(proofs, proofCopy(f))
	}
	return impl.Bundle{No: b.No, Prev: b.Prev, Roots: slices.Clone(b.Roots), Proofs: proofs}
}

// bundleTold tells a bundle without its digests' bytes, which are no text.
func bundleTold(b impl.Bundle) string {
	proofs := told(b.Proofs, func(f impl.Proof) string { return fmt.Sprint(f.N, " from ", f.From, ": ", itemKeys(f)) }, "; ")
	return fmt.Sprintf("No %d, Prev %x, roots %x, proofs of %q", b.No, b.Prev, b.Roots, proofs)
}

// superIn is the digest of what a bundle says of its seal: with it, nothing but the rest can be refused.
func superIn(b impl.Bundle) string {
	return superBySha(b.No, b.Prev, b.Roots)
}

func bundleByHand(s impl.Seal, tables []impl.Table, lo string, hi string) impl.Bundle {
	if len(tables) != len(s.Roots) {
		return impl.Bundle{}
	}
	b := impl.Bundle{No: s.No, Prev: s.Prev, Roots: s.Roots}
	for _, table := range tables {
		f := impl.Proof{}
		if impl.PairsOk(table.Pairs) {
			f = proofByHand(table.Pairs, lo, hi)
		}
		b.Proofs = append(b.Proofs, f)
	}
	return b
}

func checkByHand(super string, lo string, hi string, b impl.Bundle) ([]impl.Pair, bool) {
	m, n := map[string]string{}, len(b.Roots)
	if n == 0 || n > 8 || len(b.Proofs) != n {
		return nil, false
	}
	for at := n - 1; at >= 0; at-- {
		part, ok := impl.CheckBetween(b.Roots[at], lo, hi, b.Proofs[at])
		for _, p := range part {
			m[p.Key] = p.Val
			ok = ok && shardByFnv(p.Key, n) == at
		}
		if !ok {
			return nil, false
		}
	}
	if superIn(b) != super {
		return nil, false
	}
	return pairsByHand(m), true
}

func checksAs(t *testing.T, what string, super string, lo string, hi string, b impl.Bundle, want []impl.Pair, wantOk bool) {
	t.Helper()
	if got, ok := impl.CheckBundle(super, lo, hi, b); ok != wantOk || !slices.Equal(got, want) {
		t.Fatalf("%s: from %q up to %q, %d roots and %d proofs: CheckBundle is %v, %v, not %v, %v", what, lo, hi, len(b.Roots), len(b.Proofs), got, ok, want, wantOk)
	}
}

// checks asks that a bundle is taken, with these pairs.
func checks(t *testing.T, what string, super string, lo string, hi string, b impl.Bundle, want []impl.Pair) {
	t.Helper()
	checksAs(t, what, super, lo, hi, b, want, true)
}

func checksNot(t *testing.T, what string, super string, lo string, hi string, b impl.Bundle) {
	t.Helper()
	checksAs(t, what, super, lo, hi, b, nil, false)
}

// proves asks that of these tables and ends the bundle is as told, and taken by the seal's Super alone, with all that is between.
func proves(t *testing.T, what string, s impl.Seal, tables []impl.Table, lo string, hi string) impl.Bundle {
	t.Helper()
	b := impl.MakeBundle(s, tables, lo, hi)
	if !sameBundle(b, bundleByHand(s, tables, lo, hi)) {
		t.Fatalf("%s: from %q up to %q of %v: %v", what, lo, hi, tables, bundleTold(b))
	}
	want := insideByHand(allIn(tables), lo, hi)
	if !slices.IsSortedFunc(want, func(a impl.Pair, b impl.Pair) int { return strings.Compare(a.Key, b.Key) }) {
		t.Fatalf("%s: %v are not in order", what, want)
	}
	checks(t, what, s.Super, lo, hi, b, want)
	return b
}

// provesAll asks for all of these ends, the wrong way about too; what is checked is Between of Tables of a world at rest, which is Between of its Model.
func provesAll(t *testing.T, what string, list []impl.Seal, w impl.World, ends []string) impl.Seal {
	t.Helper()
	s, tables := seals(t, what, list, w), impl.TablesOf(w)
	for _, lo := range ends {
		for _, hi := range ends {
			b := proves(t, what, s, tables, lo, hi)
			checks(t, what, s.Super, lo, hi, b, impl.Between(impl.Tables(w), lo, hi))
			checks(t, what, s.Super, lo, hi, b, impl.Between(impl.Model(w), lo, hi))
		}
	}
	return s
}

func putOf(val string) func(key string) impl.Op {
	return func(key string) impl.Op { return impl.Op{Kind: impl.OpPut, Key: key, Val: val} }
}

func delOf(key string) impl.Op {
	return impl.Op{Kind: impl.OpDel, Key: key}
}

// What is checked against a seal's digest is all of all tables that is between.
func TestWhatIsCheckedIsAllOfAllTables(t *testing.T) {
	for n := 1; n <= 8; n++ {
		what := fmt.Sprint(n, " shards")
		w, list := impl.WorldNew(n), []impl.Seal{}
		list = append(list, provesAll(t, what+", new", list, w, someKeys))
		w = putAll(w, []string{"m"}, putOf("1"))
		list = append(list, provesAll(t, what+", one key", list, w, endsOf(impl.Tables(w))))
		w = putAll(w, strings.Fields("c f g h p q zz abcdefghijkl 0 9"), putOf("2"))
		list = append(list, provesAll(t, what+", many keys", list, w, append(endsOf(impl.Tables(w)), "abcdefghijklm", "A", "{")))
		w = putAll(putAll(w, strings.Fields("f p 9 zz"), delOf), strings.Fields("c zy"), putOf(""))
		list = append(list, provesAll(t, what+", some gone", list, w, endsOf(impl.Tables(w))))
		if got := keysOf(impl.Tables(w)); got != "0 abcdefghijkl c g h m q zy" {
			t.Fatalf("%s: %s", what, got)
		}
		for i, s := range list {
			other := list[(i+1)%len(list)]
			b := impl.MakeBundle(s, impl.TablesOf(w), "a", "n")
			if i == len(list)-1 {
				checks(t, what, s.Super, "a", "n", b, pairsOf("abcdefghijkl=2 c= g=2 h=2 m=1"))
			} else {
				checksNot(t, what+", tables of another seal", s.Super, "a", "n", b)
			}
			checksNot(t, what+", the Super of another seal", other.Super, "a", "n", b)
		}
	}
}

// A bundle that another program has told, so that one fault in both ways of working it out shows.
func TestABundleOfKnownDigests(t *testing.T) {
	digest := func(digits string) string {
		s, ok := impl.UnHex(digits)
		if !ok || len(s) != 32 {
			t.Fatal(digits)
		}
		return s
	}
	super := digest("0718c74b16e2e6a561a93b8846af64b7c02447f02d636772912418fa09025f0c")
	leafA, leafB, leafD := digest("284e4b8ddd0e5439923bda6313470dcba69b9dd22bbd76998f82aa8ebd869dd4"), digest("9795658fd6eb50e076875935fabc9091e9e93f5c8d47b21ed8c205fd98284f45"), digest("9a22802b5b00729931516827c9dd7450d8107e16f2ab2178ebb6082eea0349cc")
	leafC, leafE, leafF := digest("ea882f68f0e80d209e381f55e6528c5c41aab21e2f9f07d1ffb03a14e00c9dcc"), digest("9265a27dcf25f676122964cead30e08a6fd279c4620456fd6dc22456728bb10e"), digest("c64cf73a923b26d3e2723e657d41761dd2a03722c1f1ebbbd35ddcba0880310d")
	item := func(key string, path ...string) impl.Item {
		return impl.Item{P: impl.Pair{Key: key, Val: "1"}, Path: path}
	}
	b := impl.Bundle{
		No:   1,
		Prev: digest("e3b0c44298fc1c149afbf4c8996fb92427ae41e4649b934ca495991b7852b855"),
		Roots: []string{
			digest("6c78a2c4b5318d2222a51eed46984a35c15de54b351ce904513b246298a736d3"),
			digest("281cedb69decff98ec1de375e7926f83930016a540b09fa1aaba1c2da6f0b450"),
			digest("af73e4efa9b56d16c2526198a03ae2e2598f767c0a86fade3b7cf652709b7d5a"),
		},
		Proofs: []impl.Proof{
			{N: 1, Items: []impl.Item{item("g")}},
			{N: 3, Items: []impl.Item{item("a", leafB, leafD), item("b", leafA, leafD), item("d", digest("3e326c955d2f1b9e8fef07f5428d6f5f18716047af02d7af2700c391c11b13b9"))}},
			{N: 3, Items: []impl.Item{item("c", leafE, leafF), item("e", leafC, leafF)}},
		},
	}
	checks(t, "told", super, "b", "e", b, pairsOf("b=1 c=1 d=1"))
	w := putAll(impl.WorldNew(3), strings.Fields("a b c d e f g"), putOf("1"))
	s := seals(t, "made", nil, w)
	if got := impl.MakeBundle(s, impl.TablesOf(w), "b", "e"); !sameBundle(got, b) || s.Super != super {
		t.Errorf("%v", bundleTold(got))
	}
	for _, hi := range []string{"", "e0", "f", "z"} {
		checksNot(t, "beyond the end", super, "b", hi, b)
	}
	checks(t, "from the beginning on", super, "", "e", b, pairsOf("a=1 b=1 c=1 d=1"))
	checks(t, "within", super, "c", "d", b, pairsOf("c=1"))
}

// What is between comes in the order of its keys, whichever shards have it.
func TestShardsAreOneAnswer(t *testing.T) {
	tables := tablesIn("g=0 k=0 m=0; a=1 b=1 d=1 h=1; c=2 e=2 f=2 i=2 j=2 l=2")
	s := sealedBy(tables)
	for _, x := range []struct{ lo, hi, want string }{
		{"", "", "a=1 b=1 c=2 d=1 e=2 f=2 g=0 h=1 i=2 j=2 k=0 l=2 m=0"}, {"", "a", ""}, {"", "b", "a=1"}, {"a", "a", ""}, {"a", "a0", "a=1"}, {"b", "h", "b=1 c=2 d=1 e=2 f=2 g=0"}, {"b0", "h0", "c=2 d=1 e=2 f=2 g=0 h=1"},
		{"g", "l", "g=0 h=1 i=2 j=2 k=0"}, {"i", "k", "i=2 j=2"}, {"m", "", "m=0"}, {"m", "z", "m=0"}, {"m0", "", ""}, {"n", "z", ""}, {"k", "c", ""}, {"z", "a", ""}, {"l", "m0", "l=2 m=0"}, {"h0", "i", ""}, {"\xff", "", ""}, {"", "\xff", "a=1 b=1 c=2 d=1 e=2 f=2 g=0 h=1 i=2 j=2 k=0 l=2 m=0"},
	} {
		b := proves(t, "three shards", s, tables, x.lo, x.hi)
		checks(t, "three shards", s.Super, x.lo, x.hi, b, pairsOf(x.want))
	}
}

func TestTablesOfAllSizes(t *testing.T) {
	for _, counts := range [][]int{{0}, {1}, {60}, {0, 0}, {60, 0}, {0, 60}, {60, 60}, {1, 0, 2}, {0, 0, 0, 5}, {7, 8, 9, 15, 16, 17}, {0, 1, 2, 3, 4, 5, 6, 7}, {60, 60, 60, 60, 60, 60, 60, 60}, {0, 0, 0, 0, 0, 0, 0, 0}, {59, 60, 0, 33, 32, 31, 1, 60}} {
		tables := tablesBy(counts...)
		s, all := sealedBy(tables), allIn(tables)
		ends := []string{"", "a", "z"}
		for _, at := range []int{0, len(all) / 2, len(all) - 1} {
			if at >= 0 && at < len(all) {
				ends = append(ends, all[at].Key, all[at].Key+"0")
			}
		}
		for i, lo := range ends {
			for j, hi := range ends {
				if len(all) < 100 || (i+j)%4 == 0 { // proofs of many pairs take long to work out by hand
					proves(t, fmt.Sprint(counts), s, tables, lo, hi)
				}
			}
		}
		checks(t, "all", s.Super, "", "", impl.MakeBundle(s, tables, "", ""), all)
	}
	// one more than MaxPairs: there is no proof of such a table, nor a root that one could have
	tables := tablesBy(3, 2)
	tables[1].Pairs = shardPairs(1, 2, 61)
	s := sealedBy(tables)
	b := impl.MakeBundle(s, tables, "", "")
	if !sameProof(b.Proofs[1], impl.Proof{}) || !sameProof(b.Proofs[0], proofByHand(tables[0].Pairs, "", "")) {
		t.Errorf("61 pairs: %v", bundleTold(b))
	}
	checksNot(t, "61 pairs", s.Super, "", "", b)
	b.Proofs[1] = allProof(tables[1].Pairs)
	checksNot(t, "61 pairs, all of them", s.Super, "", "", b)
}

func TestBundlesOfAsManyTablesAsRoots(t *testing.T) {
	for roots := range 11 {
		s := sealBy(7, shaOf("ahead"), someRoots(roots, "count"))
		for count := range 11 {
			tables := tablesBy(slices.Repeat([]int{2}, count)...)
			b := impl.MakeBundle(s, tables, "k", "")
			if !sameBundle(b, bundleByHand(s, tables, "k", "")) {
				t.Errorf("%d tables, %d roots: %v", count, roots, bundleTold(b))
			}
			if count != roots && (b.No != 0 || b.Prev != "" || len(b.Roots) != 0 || len(b.Proofs) != 0) {
				t.Errorf("%d tables, %d roots: %v", count, roots, bundleTold(b))
			}
			if count == roots && (b.No != 7 || b.Prev != s.Prev || !slices.Equal(b.Roots, s.Roots) || len(b.Proofs) != count) {
				t.Errorf("%d tables and roots: %v", count, bundleTold(b))
			}
			checksNot(t, "tables that do not fit the roots", superIn(b), "k", "", b)
		}
	}
	// as many as there are: no tables, and no roots
	for _, tables := range [][]impl.Table{nil, {}} {
		for _, rootList := range [][]string{nil, {}} {
			b := impl.MakeBundle(impl.Seal{No: 3, Prev: "p", Super: "s", Roots: rootList}, tables, "", "")
			if !sameBundle(b, impl.Bundle{No: 3, Prev: "p"}) {
				t.Errorf("no tables: %v", bundleTold(b))
			}
			checksNot(t, "no tables", superIn(b), "", "", b)
		}
	}
	many := impl.MakeBundle(impl.Seal{Roots: make([]string, 5000)}, make([]impl.Table, 5000), "", "")
	if len(many.Roots) != 5000 || len(many.Proofs) != 5000 {
		t.Errorf("%d roots, %d proofs", len(many.Roots), len(many.Proofs))
	}
	checksNot(t, "very many", superIn(many), "", "", many)
}

// A seal is taken as it is, and its Super is not looked at.
func TestBundlesOfAnySeal(t *testing.T) {
	tables := tablesBy(2, 0, 3)
	for _, no := range []int{math.MinInt, -1, 0, 1, 2, 1000, 1001, impl.MaxNum, impl.MaxNum + 1, math.MaxInt} {
		for _, prev := range []string{"", "p", shaOf(), mixedText(300)} {
			s := sealBy(no, prev, tableRoots(tables))
			b := proves(t, "any seal", s, tables, "k", "k1")
			for _, super := range []string{"", shaOf(), turnedText(s.Super, 3)} {
				if got := impl.MakeBundle(impl.Seal{No: no, Prev: prev, Super: super, Roots: s.Roots}, tables, "k", "k1"); !sameBundle(got, b) {
					t.Errorf("No %d, another Super: %v", no, bundleTold(got))
				}
				checksNot(t, "another Super", super, "k", "k1", b)
			}
		}
	}
	for _, root := range []string{"", "r", shaOf(), rootBySha(nil)[:31], rootBySha(nil) + "x"} {
		s := sealBy(1, shaOf(), []string{root, rootBySha(tables[1].Pairs), rootBySha(tables[2].Pairs)})
		b := impl.MakeBundle(s, tables, "", "")
		if !sameBundle(b, bundleByHand(s, tables, "", "")) {
			t.Errorf("a root %x: %v", root, bundleTold(b))
		}
		checksNot(t, "a root that is none", s.Super, "", "", b)
	}
}

// Tables that are not right have the zero proof, each for itself.
func TestBundlesOfWrongTables(t *testing.T) {
	for _, text := range []string{"a=1 a=2", "b=1 a=2", "=1", "A=1", "a=1 {=2", "thirteensigns=1", "a=123456789012345678901"} {
		for at := range 3 {
			tables := tablesIn("g=0; a=1 b=1; c=2")
			tables[at].Pairs = pairsOf(text)
			s := sealBy(1, shaOf(), []string{impl.RootOf(tables[0].Pairs), impl.RootOf(tables[1].Pairs), impl.RootOf(tables[2].Pairs)})
			b := impl.MakeBundle(s, tables, "", "")
			if !sameBundle(b, bundleByHand(s, tables, "", "")) || !sameProof(b.Proofs[at], impl.Proof{}) || len(b.Proofs[(at+1)%3].Items) == 0 {
				t.Errorf("%s at %d: %v", text, at, bundleTold(b))
			}
			checksNot(t, text, s.Super, "", "", b)
			b.Proofs[at] = allProof(tables[at].Pairs)
			checksNot(t, text+", all of it", s.Super, "", "", b)
		}
	}
	// the zero proof is that of a table without pairs
	tables := tablesIn("g=0; a=1 a=2; c=2")
	s := sealBy(1, shaOf(), []string{rootBySha(tables[0].Pairs), rootBySha(nil), rootBySha(tables[2].Pairs)})
	checks(t, "a root of no pairs", s.Super, "", "", impl.MakeBundle(s, tables, "", ""), pairsOf("c=2 g=0"))
}

// Tables that do not fit the roots are proved all the same, and refused: another pair, one less, one more, all of them exchanged.
func TestTablesThatDoNotFitTheRoots(t *testing.T) {
	own := tablesIn("g=0 k=0 m=0; a=1 b=1 d=1 h=1; c=2 e=2 f=2")
	s := sealedBy(own)
	for what, text := range map[string]string{
		"another value":     "g=0 k=1 m=0; a=1 b=1 d=1 h=1; c=2 e=2 f=2",
		"one less":          "g=0 k=0 m=0; a=1 b=1 h=1; c=2 e=2 f=2",
		"the last one less": "g=0 k=0 m=0; a=1 b=1 d=1 h=1; c=2 e=2",
		"one more":          "g=0 k=0 m=0; a=1 b=1 d=1 h=1; c=2 e=2 f=2 i=2",
		"another key":       "g=0 k=0 m=0; a=1 b=1 d=1 h=1; c=2 e=2 i=2",
		"one shard empty":   "; a=1 b=1 d=1 h=1; c=2 e=2 f=2",
		"all empty":         ";;",
		"exchanged":         "a=1 b=1 d=1 h=1; g=0 k=0 m=0; c=2 e=2 f=2",
		"one moved":         "g=0 m=0; a=1 b=1 d=1 h=1; c=2 e=2 f=2 k=0",
	} {
		tables := tablesIn(text)
		for _, x := range []struct{ lo, hi string }{{"", ""}, {"a", "d"}, {"c", "l"}, {"z", ""}, {"x", "b"}} {
			b := impl.MakeBundle(s, tables, x.lo, x.hi)
			if !sameBundle(b, bundleByHand(s, tables, x.lo, x.hi)) {
				t.Errorf("%s: %v", what, bundleTold(b))
			}
			checksNot(t, what, s.Super, x.lo, x.hi, b)
		}
		b := impl.MakeBundle(s, tables, "", "")
		b.Roots = tableRoots(tables)
		checksNot(t, what+", with its own roots", s.Super, "", "", b)
	}
	proves(t, "its own", s, own, "", "")
}

// someBundles gives bundles with the Super that takes them, and their tables and ends.
func someBundles() []struct {
	tables []impl.Table
	seal   impl.Seal
	lo, hi string
	bundle impl.Bundle
} {
	type made = struct {
		tables []impl.Table
		seal   impl.Seal
		lo, hi string
		bundle impl.Bundle
	}
	list := []made{}
	for _, tables := range [][]impl.Table{tablesBy(0), tablesBy(3), tablesBy(2, 0), tablesIn("g=0 k=0 m=0; a=1 b=1 d=1 h=1; c=2 e=2 f=2"), tablesBy(1, 2, 0, 4, 3, 0, 1, 2)} {
		s := sealBy(4, shaOf("ahead"), tableRoots(tables))
		ends := []string{"", "b", "k0002", "z"}
		for _, lo := range ends {
			for _, hi := range ends {
				if hi == "" || lo <= hi {
					list = append(list, made{tables, s, lo, hi, bundleByHand(s, tables, lo, hi)})
				}
			}
		}
	}
	return list
}

func TestAnotherSuperIsRefused(t *testing.T) {
	for _, x := range someBundles() {
		b, s := x.bundle, x.seal
		checks(t, "its own", s.Super, x.lo, x.hi, b, insideByHand(allIn(x.tables), x.lo, x.hi))
		supers := []string{"", s.Prev, s.Roots[0], s.Super[:31], s.Super[1:], s.Super + "\x00", "\x00" + s.Super, s.Super + s.Super, impl.HexOf(s.Super), shaOf(), strings.Repeat("\x00", 32),
			superBySha(s.No+1, s.Prev, s.Roots), superBySha(s.No, shaOf(), s.Roots), superBySha(s.No, s.Prev, nil), superBySha(s.No, s.Prev, append(slices.Clone(s.Roots), rootBySha(nil))), superBySha(s.No, s.Prev, s.Roots[1:])}
		for at := range 32 {
			supers = append(supers, turnedText(s.Super, at))
		}
		for _, super := range supers {
			checksNot(t, "another super", super, x.lo, x.hi, b)
		}
	}
}

// What a bundle says of its seal is held against the digest: nothing of it can be changed.
func TestAnotherSealIsRefused(t *testing.T) {
	for _, x := range someBundles() {
		no := func(what string, change func(b *impl.Bundle)) {
			t.Helper()
			b := copyBundle(x.bundle)
			change(&b)
			if sameBundle(b, x.bundle) {
				t.Fatalf("%s: nothing is changed", what)
			}
			checksNot(t, what, x.seal.Super, x.lo, x.hi, b)
		}
		for _, number := range []int{math.MinInt, -1, 0, 1, 3, 5, 132, 1000, 1001, math.MaxInt} {
			no(fmt.Sprint("No ", number), func(b *impl.Bundle) { b.No = number })
		}
		for _, prev := range []string{"", shaOf(), x.seal.Super, x.seal.Prev[:31], x.seal.Prev + "\x00", turnedText(x.seal.Prev, 0), turnedText(x.seal.Prev, 31)} {
			no("Prev", func(b *impl.Bundle) { b.Prev = prev })
		}
		empty := impl.ProveBetween(nil, "", "")
		for at := range x.seal.Roots {
			for place := range 32 {
				no("a root turned", func(b *impl.Bundle) { b.Roots[at] = turnedText(b.Roots[at], place) })
			}
			no("a root of nothing", func(b *impl.Bundle) { b.Roots[at] = "" })
			no("another root, with its proof", func(b *impl.Bundle) {
				more := impl.PutKey(x.tables[at].Pairs, shardPairs(at, len(b.Roots), 7)[6].Key, "more")
				b.Roots[at], b.Proofs[at] = rootBySha(more), proofByHand(more, x.lo, x.hi)
			})
			no("a root less", func(b *impl.Bundle) { b.Roots = slices.Delete(b.Roots, at, at+1) })
			no("a proof less", func(b *impl.Bundle) { b.Proofs = slices.Delete(b.Proofs, at, at+1) })
			no("both less", func(b *impl.Bundle) {
				b.Roots, b.Proofs = slices.Delete(b.Roots, at, at+1), slices.Delete(b.Proofs, at, at+1)
			})
			no("a root more", func(b *impl.Bundle) { b.Roots = slices.Insert(b.Roots, at, rootBySha(nil)) })
			no("a proof more", func(b *impl.Bundle) { b.Proofs = slices.Insert(b.Proofs, at, empty) })
			no("a proof twice", func(b *impl.Bundle) { b.Proofs = slices.Insert(b.Proofs, at, b.Proofs[at]) })
			no("both more", func(b *impl.Bundle) {
				b.Roots, b.Proofs = slices.Insert(b.Roots, at, rootBySha(nil)), slices.Insert(b.Proofs, at, empty)
			})
			no("both more, behind", func(b *impl.Bundle) { b.Roots, b.Proofs = append(b.Roots, rootBySha(nil)), append(b.Proofs, empty) })
			for other := range at {
				if x.seal.Roots[at] != x.seal.Roots[other] {
					no("roots exchanged", func(b *impl.Bundle) { b.Roots[at], b.Roots[other] = b.Roots[other], b.Roots[at] })
				}
			}
		}
		no("no roots", func(b *impl.Bundle) { b.Roots = nil })
		no("no proofs", func(b *impl.Bundle) { b.Proofs = nil })
		no("neither", func(b *impl.Bundle) { b.Roots, b.Proofs = nil, nil })
		no("zero", func(b *impl.Bundle) { *b = impl.Bundle{} })
	}
}

// As many as there must be, by a Super that fits: no other number of roots and proofs is taken, though all of these are right.
func TestHowManyRootsAndProofs(t *testing.T) {
	none := impl.ProveBetween(nil, "", "")
	for roots := range 12 {
		for proofs := range 12 {
			b := impl.Bundle{No: 1, Prev: shaOf(), Roots: slices.Repeat([]string{rootBySha(nil)}, roots), Proofs: slices.Repeat([]impl.Proof{none}, proofs)}
			checksAs(t, fmt.Sprint(roots, " roots, ", proofs, " proofs"), superIn(b), "", "", b, nil, roots == proofs && roots >= 1 && roots <= 8)
		}
	}
	for n := 1; n <= 10; n++ {
		tables := tablesBy(slices.Repeat([]int{3}, n)...)
		s := sealedBy(tables)
		b := impl.MakeBundle(s, tables, "", "")
		if n <= 8 {
			checks(t, fmt.Sprint(n), s.Super, "", "", b, allIn(tables))
		} else {
			checksNot(t, fmt.Sprint(n), s.Super, "", "", b)
		}
		less, more := copyBundle(b), copyBundle(b)
		less.Proofs = less.Proofs[:n-1]
		more.Proofs = append(more.Proofs, none)
		checksNot(t, "a proof less", s.Super, "", "", less)
		checksNot(t, "a proof more", s.Super, "", "", more)
		less.Roots = less.Roots[:n-1]
		want, ok := checkByHand(superIn(less), "", "", less)
		if ok != (n == 2) { // of one shard all keys are its own
			t.Fatalf("a root and a proof less than %d: by hand %v", n, ok)
		}
		checksAs(t, "a root and a proof less", superIn(less), "", "", less, want, ok)
	}
	for _, count := range []int{16, 17, 200, 201, 256, 257, 264} {
		b := impl.Bundle{No: 1, Prev: shaOf(), Roots: slices.Repeat([]string{rootBySha(nil)}, count), Proofs: slices.Repeat([]impl.Proof{none}, count)}
		checksNot(t, fmt.Sprint(count), superIn(b), "", "", b)
		b.Proofs = b.Proofs[:1]
		checksNot(t, fmt.Sprint(count, " and one"), superIn(b), "", "", b)
	}
	checksNot(t, "zero", superIn(impl.Bundle{}), "", "", impl.Bundle{})
	checksNot(t, "zero, no super", "", "", "", impl.Bundle{})
}

func TestProofsOfOtherShards(t *testing.T) {
	for _, x := range someBundles() {
		for i := range x.tables {
			for j := range x.tables {
				b := copyBundle(x.bundle)
				b.Proofs[i], b.Proofs[j] = b.Proofs[j], b.Proofs[i]
				want := holdsOf(x.tables[i].Pairs, x.lo, x.hi, b.Proofs[i]) && holdsOf(x.tables[j].Pairs, x.lo, x.hi, b.Proofs[j])
				if want != (x.seal.Roots[i] == x.seal.Roots[j]) {
					t.Fatalf("%d and %d exchanged: by hand %v", i, j, want)
				}
				if want {
					checks(t, "alike", x.seal.Super, x.lo, x.hi, b, insideByHand(allIn(x.tables), x.lo, x.hi))
					continue
				}
				checksNot(t, fmt.Sprint(i, " and ", j, " exchanged"), x.seal.Super, x.lo, x.hi, b)
				b.Proofs[j] = x.bundle.Proofs[j]
				checksNot(t, fmt.Sprint(j, " at ", i), x.seal.Super, x.lo, x.hi, b)
			}
		}
	}
}

// A proof of other ends is taken only where it proves what is asked for, too.
func TestBundlesOfOtherEnds(t *testing.T) {
	tables := tablesIn("g=0 k=0 m=0; a=1 b=1 d=1 h=1; c=2 e=2 f=2")
	s, ends := sealedBy(tables), []string{"", "a", "b", "b0", "d", "e", "f0", "g", "h", "k0", "m", "z"}
	m := seen{}
	look := func(what string, lo string, hi string, b impl.Bundle) {
		t.Helper()
		want := true
		for at, f := range b.Proofs {
			want = want && holdsOf(tables[at].Pairs, lo, hi, f)
		}
		m[fmt.Sprint(what, " ", want)]++
		if want {
			checks(t, what, s.Super, lo, hi, b, insideByHand(allIn(tables), lo, hi))
		} else {
			checksNot(t, what, s.Super, lo, hi, b)
		}
	}
	for _, lo := range ends {
		for _, hi := range ends {
			b := proves(t, "its own", s, tables, lo, hi)
			for _, otherLo := range ends {
				look("another lo", otherLo, hi, b)
				for _, otherHi := range ends {
					look("other ends", otherLo, otherHi, b)
				}
			}
			for at := range tables {
				for _, end := range ends {
					mixed := copyBundle(b)
					mixed.Proofs[at] = proofByHand(tables[at].Pairs, lo, end)
					look("one proof of another hi", lo, hi, mixed)
					mixed.Proofs[at] = proofByHand(tables[at].Pairs, end, hi)
					look("one proof of another lo", lo, hi, mixed)
				}
			}
		}
	}
	for _, what := range []string{"another lo", "other ends", "one proof of another hi", "one proof of another lo"} {
		m.atLeast(t, 100, what+" true", what+" false")
	}
	checksNot(t, "all of a part", s.Super, "", "", impl.MakeBundle(s, tables, "b", "h"))
	checks(t, "a part of all", s.Super, "b", "h", impl.MakeBundle(s, tables, "", ""), pairsOf("b=1 c=2 d=1 e=2 f=2 g=0"))
}

// An item left out, added, turned, or with another path, at whichever shard.
func TestBundlesWithBentProofs(t *testing.T) {
	m := seen{}
	for _, x := range someBundles() {
		for at, f := range x.bundle.Proofs {
			for i, other := range bentProofs(f) {
				b := copyBundle(x.bundle)
				b.Proofs[at] = other
				m[fmt.Sprint("shard ", at)]++
				checksNot(t, fmt.Sprint("bent ", i, " at ", at), x.seal.Super, x.lo, x.hi, b)
			}
		}
	}
	m.atLeast(t, 100, "shard 0", "shard 1", "shard 2", "shard 3", "shard 4", "shard 6", "shard 7")
}

// A key of another shard is refused where it is between, though root and Super fit: it would be told where nobody reads it.
func TestKeysOfAnotherShardAreRefused(t *testing.T) {
	for n := 1; n <= 8; n++ {
		for at := range n {
			for home := range n {
				for _, place := range []int{0, 2, 5} {
					key := shardPairs(home, n, 6)[place].Key
					tables := tablesBy(slices.Repeat([]int{4}, n)...)
					tables[home].Pairs = impl.DelKey(tables[home].Pairs, key)
					tables[at].Pairs = impl.PutKey(tables[at].Pairs, key, "x")
					s, what := sealedBy(tables), fmt.Sprint(key, " of ", home, " at ", at, " of ", n)
					for _, x := range []struct {
						lo, hi string
						inside bool
					}{
						{"", "", true}, {key, "", true}, {key, key + "0", true}, {"k", key + "0", true}, {"", key, false}, {key + "0", "", false}, {key + "0", key + "1", false}, {key, key, false}, {"z", key, false}, {"z", "", false},
					} {
						b := impl.MakeBundle(s, tables, x.lo, x.hi)
						if !sameBundle(b, bundleByHand(s, tables, x.lo, x.hi)) {
							t.Fatalf("%s: %v", what, bundleTold(b))
						}
						if x.inside && home != at {
							checksNot(t, what, s.Super, x.lo, x.hi, b)
						} else {
							checks(t, what, s.Super, x.lo, x.hi, b, insideByHand(allIn(tables), x.lo, x.hi))
						}
					}
				}
			}
		}
	}
}

// A key at its own shard and at another one, too: it is not asked which of them counts.
func TestKeysAtTwoShardsAreRefused(t *testing.T) {
	for _, val := range []string{"1", "2"} {
		for at := range 3 {
			tables := tablesIn("g=0; a=1 b=1; c=2")
			if at != 1 {
				tables[at].Pairs = impl.PutKey(tables[at].Pairs, "a", val)
			}
			s := sealedBy(tables)
			for _, x := range []struct{ lo, hi string }{{"", ""}, {"a", "b"}, {"", "a0"}} {
				checksAs(t, fmt.Sprint("at ", at), s.Super, x.lo, x.hi, impl.MakeBundle(s, tables, x.lo, x.hi), map[bool][]impl.Pair{true: insideByHand(allIn(tables), x.lo, x.hi)}[at == 1], at == 1)
			}
			checks(t, fmt.Sprint("beside, at ", at), s.Super, "b", "", impl.MakeBundle(s, tables, "b", ""), pairsOf("b=1 c=2 g=0"))
		}
	}
}

// Which shard a key is of goes by how many Roots there are, whatever it was when the key was put.
func TestShardsGoByHowManyRootsThereAre(t *testing.T) {
	m := seen{}
	for n := 1; n <= 8; n++ {
		own := tablesBy(slices.Repeat([]int{3}, n)...)
		for count := 1; count <= 8; count++ {
			tables, want := []impl.Table{}, true
			for at := range count {
				table := impl.Table{}
				if at < n {
					table = own[at]
				}
				for _, p := range table.Pairs {
					want = want && shardByFnv(p.Key, count) == at
				}
				tables = append(tables, table)
			}
			s := sealedBy(tables)
			m[fmt.Sprint("taken ", want)]++
			checksAs(t, fmt.Sprint("keys of ", n, " at ", count), s.Super, "", "", impl.MakeBundle(s, tables, "", ""), map[bool][]impl.Pair{true: allIn(tables)}[want], want)
			checks(t, "nothing between", s.Super, "z", "", impl.MakeBundle(s, tables, "z", ""), nil)
		}
	}
	m.atLeast(t, 8, "taken true", "taken false")
}

// A world that is right, and at rest, may have a key at another's shard, if it was not made by events alone: it is sealed, and not told.
func TestWorldsWithKeysOfAnotherShard(t *testing.T) {
	w := worldOf(t, 3, resting)
	provesAll(t, "as it is", nil, w, []string{"", "a", "g", "h", "z"})
	w.Shards[2] = shardBy(t, 2, recsOf("9 e=2 g=2; 9+"), 2)
	isWorld(t, "g at 2", true, w)
	s, tables := seals(t, "g at 2", nil, w), impl.TablesOf(w)
	for _, x := range []struct{ lo, hi, want string }{{"", "", "no"}, {"g", "", "no"}, {"", "h", "no"}, {"f", "g0", "no"}, {"", "g", "a=1 e=2"}, {"g0", "", "h=1"}, {"e", "f", "e=2"}, {"z", "", ""}} {
		b := impl.MakeBundle(s, tables, x.lo, x.hi)
		if x.want == "no" {
			checksNot(t, "g at 2", s.Super, x.lo, x.hi, b)
		} else {
			checks(t, "g at 2", s.Super, x.lo, x.hi, b, pairsOf(x.want))
		}
	}
}

// The number is taken as PutNum puts it, and Prev may be any text: the chapter asks for the digest alone.
func TestNumbersThatHaveOneDigest(t *testing.T) {
	tables := tablesBy(2, 3)
	for _, pair := range [][2]int{{0, -1}, {0, math.MinInt}, {impl.MaxNum, impl.MaxNum + 1}, {impl.MaxNum, math.MaxInt}} {
		s := sealBy(pair[0], "any", tableRoots(tables))
		b := impl.MakeBundle(s, tables, "k", "")
		checks(t, "as it is", s.Super, "k", "", b, allIn(tables))
		b.No = pair[1]
		checks(t, "put alike", s.Super, "k", "", b, allIn(tables))
		for _, no := range []int{1, 1000, impl.MaxNum - 1} {
			b.No = no
			checksNot(t, "another No", s.Super, "k", "", b)
		}
	}
}

func tablesAre(t *testing.T, what string, w impl.World, want []impl.Table) {
	t.Helper()
	if got := impl.TablesOf(w); !slices.EqualFunc(got, want, sameTable) {
		t.Errorf("%s: TablesOf is %v, not %v", what, got, want)
	}
}

func mapsByHand(w impl.World) []impl.Table {
	list := make([]impl.Table, len(w.Shards))
	for at := range list {
		list[at].Pairs = w.Shards[at].Map
	}
	return list
}

func TestTablesOfWorlds(t *testing.T) {
	tablesAre(t, "zero", impl.World{}, nil)
	for n := -1; n <= 10; n++ {
		tablesAre(t, fmt.Sprint("new of ", n), impl.WorldNew(n), make([]impl.Table, len(impl.WorldNew(n).Shards)))
	}
	if got := impl.TablesOf(impl.WorldNew(8)); len(got) != 8 {
		t.Errorf("%d tables of 8 shards", len(got))
	}
	tablesAre(t, "three", tabled("g=0", "", "c=2 e=2"), tablesIn("g=0;;c=2 e=2"))
	tablesAre(t, "one", tabled("a=1 b=2"), tablesIn("a=1 b=2"))
	tablesAre(t, "none has any", tabled("", "", ""), tablesIn(";;"))
	tablesAre(t, "at rest", worldOf(t, 3, resting), tablesIn("g=1; a=1 h=1;"))
	keys := strings.Fields("a b c d e f g h k m zz 0 9")
	for n := 1; n <= 8; n++ {
		w, want := putAll(impl.WorldNew(n), keys, putOf("1")), make([]impl.Table, n)
		for _, key := range slices.Sorted(slices.Values(keys)) {
			at := shardByFnv(key, n)
			want[at].Pairs = append(want[at].Pairs, impl.Pair{Key: key, Val: "1"})
		}
		tablesAre(t, fmt.Sprint(n, " shards"), w, want)
		goesOn := impl.Play(w, eventsOf("begin a=2 b=2; hear 0; hear 0"))
		tablesAre(t, "what is held is in no table", goesOn, want)
	}
}

// Worlds that are not right have tables all the same: the Maps, as the shards stand, whatever records and Ids say.
func TestTablesOfWrongWorlds(t *testing.T) {
	for what, w := range wrongWorlds(t) {
		tablesAre(t, what, w, mapsByHand(w))
	}
	w := tabled("g=0", "a=1", "c=2")
	slices.Reverse(w.Shards)
	tablesAre(t, "turned", w, tablesIn("c=2; a=1; g=0"))
	for at := range w.Shards {
		w.Shards[at].Id = []int{7, -1, math.MaxInt}[at]
	}
	tablesAre(t, "any Ids", w, tablesIn("c=2; a=1; g=0"))
	w.C = impl.Coord{}
	tablesAre(t, "nobody decides", w, tablesIn("c=2; a=1; g=0"))
	tablesAre(t, "pairs that do not rise", tabled("b=1 a=2 b=3", "=1 A=2"), tablesIn("b=1 a=2 b=3; =1 A=2"))
	many := everywhere(40, someKeys)
	tablesAre(t, "40 shards", many, mapsByHand(many))
	tablesAre(t, "100 pairs", impl.World{Shards: []impl.Shard{{Map: manyPairs(100)}}}, []impl.Table{{Pairs: manyPairs(100)}})
}

// Of WorldNew, by whatever events: what was made of a world at rest is checked, and is all of all tables that is between, also by a later world's seals ahead.
func TestBundlesOfManyWorlds(t *testing.T) {
	from := rand.New(rand.NewSource(16))
	m := seen{}
	for run := range 64 {
		w, list := impl.WorldNew(1+run%8), []impl.Seal{}
		for range 3 {
			for range 20 + from.Intn(100) {
				w, _ = impl.Do(w, roughEvent(from, w))
			}
			if w = calm(w, func(w impl.World) {}); !restingByHand(w) || !worldByHand(w) {
				m["not sealed"]++
				continue
			}
			s, tables, model := seals(t, "rough", list, w), impl.TablesOf(w), modelByHand(w)
			list = append(list, s)
			ends := append(endsOf(model), someKeys...)
			for range 60 {
				lo, hi := ends[from.Intn(len(ends))], ends[from.Intn(len(ends))]
				b := proves(t, "rough", s, tables, lo, hi)
				want := insideByHand(model, lo, hi)
				checks(t, "rough", s.Super, lo, hi, b, want)
				m.noteIf("several pairs", len(want) > 2)
				m.noteIf("nothing between", len(want) == 0 && len(model) > 0)
				m.noteIf("empty tables", len(model) == 0)
				for _, other := range list[:len(list)-1] {
					checksNot(t, "an earlier Super", other.Super, lo, hi, b)
				}
			}
		}
	}
	m.atLeast(t, 200, "several pairs", "nothing between")
}

// roughProof is a proof of these pairs, or one of which some things are not right.
func roughProof(from *rand.Rand, l []impl.Pair, lo string, hi string) impl.Proof {
	f := proofByHand(l, lo, hi)
	switch from.Intn(12) {
	case 0:
		if bent := bentProofs(f); len(bent) > 0 {
			return bent[from.Intn(len(bent))]
		}
	case 1:
		return impl.Proof{N: from.Intn(62) - 1, From: from.Intn(5) - 1, Items: make([]impl.Item, from.Intn(4))}
	case 2:
		return allProof(l)
	case 3:
		return impl.Proof{N: math.MaxInt, From: math.MaxInt, Items: f.Items}
	case 4:
		return impl.Proof{N: math.MinInt, From: math.MinInt, Items: make([]impl.Item, 3)}
	}
	return f
}

func roughBundle(from *rand.Rand, lo string, hi string) impl.Bundle {
	b := impl.Bundle{No: []int{0, 1, 2, -1, 1000, 1001, math.MaxInt, math.MinInt}[from.Intn(8)], Prev: []string{"", shaOf(), "x", mixedText(400)}[from.Intn(4)]}
	n := 1 + from.Intn(3)
	if from.Intn(10) == 0 {
		n = from.Intn(11)
	}
	for at := range n {
		pairs := shardPairs(at, n, from.Intn(4))
		if from.Intn(15) == 0 {
			pairs = manyPairs(from.Intn(3))
		}
		root := rootBySha(pairs)
		if from.Intn(40) == 0 {
			root = []string{"", shaOf(), rootBySha(nil), mixedText(31)}[from.Intn(4)]
		}
		b.Roots, b.Proofs = append(b.Roots, root), append(b.Proofs, roughProof(from, pairs, lo, hi))
	}
	switch from.Intn(20) {
	case 0:
		b.Roots = append(b.Roots, shaOf())
	case 1:
		b.Proofs = append(b.Proofs, impl.Proof{})
	case 2:
		b.Roots = nil
	case 3:
		b.Proofs = nil
	}
	return b
}

// Whatever it is given, each call answers, and by the words.
func TestAnyBundleIsAnswered(t *testing.T) {
	from := rand.New(rand.NewSource(161))
	ends := []string{"", "a", "k", "k0", "k0001", "k00010", "k0004", "k00a", "k1", "z", "\x00", "\xff", mixedText(100)}
	m := seen{}
	for range 6000 {
		lo, hi := ends[from.Intn(len(ends))], ends[from.Intn(len(ends))]
		b := roughBundle(from, lo, hi)
		super := superIn(b)
		switch from.Intn(12) {
		case 0:
			super = []string{"", shaOf(), mixedText(1000), turnedText(super, from.Intn(32))}[from.Intn(4)]
		case 1:
			lo = ends[from.Intn(len(ends))]
		case 2:
			hi = ends[from.Intn(len(ends))]
		}
		want, ok := checkByHand(super, lo, hi, b)
		m[fmt.Sprint("taken ", ok)]++
		m.noteIf("taken with pairs", len(want) > 0)
		m.noteIf("a Super that fits, refused", !ok && super == superIn(b))
		checksAs(t, "rough", super, lo, hi, b, want, ok)
		tables := make([]impl.Table, from.Intn(4))
		for at := range tables {
			tables[at].Pairs = pairsOf(pairLists[from.Intn(len(pairLists))])
		}
		s := impl.Seal{No: b.No, Prev: b.Prev, Super: super, Roots: b.Roots}
		if got := impl.MakeBundle(s, tables, lo, hi); !sameBundle(got, bundleByHand(s, tables, lo, hi)) {
			t.Fatalf("of %v: %v", tables, bundleTold(got))
		}
	}
	m.atLeast(t, 300, "taken true", "taken false", "taken with pairs", "a Super that fits, refused")
}

func TestBundlesLeaveTheirArguments(t *testing.T) {
	tableLists := [][]impl.Table{nil, {}, {{}}, tablesBy(0), tablesBy(5), tablesBy(2, 0, 3), tablesBy(1, 2, 3, 4, 5, 6, 7, 60), tablesIn("b=1 a=2; a=1"), tablesIn("a=1;a=1;a=1"), tablesBy(1, 1, 1, 1, 1, 1, 1, 1, 1)}
	for i, list := range tableLists {
		for _, roots := range []int{len(list), len(list) + 1} {
			for _, x := range []struct{ lo, hi string }{{"", ""}, {"a", "k0003"}, {"k0002", ""}, {"z", ""}, {"z", "a"}} {
				what := fmt.Sprint("tables ", i, ", ", roots, " roots, from ", x.lo, " up to ", x.hi)
				s := sealedBy(list)
				s.Roots = append(s.Roots, someRoots(roots-len(list), "more")...)
				seal, tables := withSpare(s), withSpare(list)
				sealBefore, tablesBefore := wholeOf(seal), wholeOf(tables)
				made, again := impl.MakeBundle(seal, tables, x.lo, x.hi), impl.MakeBundle(seal, tables, x.lo, x.hi)
				if !sameBundle(made, bundleByHand(s, list, x.lo, x.hi)) || !sameBundle(again, made) {
					t.Errorf("%s: %v, then %v", what, bundleTold(made), bundleTold(again))
				}
				if !reflect.DeepEqual(wholeOf(seal), sealBefore) || !reflect.DeepEqual(wholeOf(tables), tablesBefore) {
					t.Errorf("%s: written into", what)
				}
				shareNothing(t, what, seal, tables, made, again)
				bundleStays(t, what, s.Super, x.lo, x.hi, made)
				bundleStays(t, what+", another super", "", x.lo, x.hi, made)
				bundleStays(t, what+", other ends", s.Super, "", "k0001", made)
			}
		}
	}
}

// bundleStays asks that a bundle with room behind all its lists is checked as one without, and left as it is.
func bundleStays(t *testing.T, what string, super string, lo string, hi string, b impl.Bundle) {
	t.Helper()
	given := withSpare(b)
	before := wholeOf(given)
	wantPairs, want := impl.CheckBundle(super, lo, hi, copyBundle(b))
	first, ok := impl.CheckBundle(super, lo, hi, given)
	second, again := impl.CheckBundle(super, lo, hi, given)
	if ok != want || again != want || !slices.Equal(first, wantPairs) || !slices.Equal(second, wantPairs) {
		t.Errorf("%s: %v, %v with room, %v, %v without", what, first, ok, wantPairs, want)
	}
	if !reflect.DeepEqual(wholeOf(given), before) {
		t.Errorf("%s: the bundle was written into", what)
	}
	shareNothing(t, what, given, first, second)
}

func TestTablesOfLeavesItsWorld(t *testing.T) {
	for i, w := range []impl.World{{}, impl.WorldNew(1), impl.WorldNew(8), worldOf(t, 3, resting), busyWorld(t), settled(t), tabled("b=1 a=2", "", "a=1"), everywhere(12, someKeys)} {
		what := fmt.Sprint("world ", i)
		given := withSpare(w)
		before := wholeOf(given)
		first, second := impl.TablesOf(given), impl.TablesOf(given)
		if !slices.EqualFunc(first, mapsByHand(w), sameTable) || !slices.EqualFunc(second, first, sameTable) {
			t.Errorf("%s: %v, then %v", what, first, second)
		}
		if !reflect.DeepEqual(wholeOf(given), before) {
			t.Errorf("%s: written into", what)
		}
		shareNothing(t, what, given, first, second)
	}
}

// Arguments whose own lists are one memory are answered with lists of their own.
func TestBundlesOfOneMemory(t *testing.T) {
	pairs, table := pairsOf("a=1 b=2 c=3"), impl.Table{}
	table.Pairs = pairs
	tables := []impl.Table{table, table, table}
	s := sealedBy(tables)
	before := wholeOf(tables)
	b := impl.MakeBundle(s, tables, "b", "c")
	shareNothing(t, "bundle", b, s, pairs)
	if !reflect.DeepEqual(wholeOf(tables), before) {
		t.Error("written into")
	}
	w := impl.World{Shards: []impl.Shard{{Map: pairs}, {Map: pairs}, {Map: pairs[:2]}}}
	shareNothing(t, "tables", impl.TablesOf(w), pairs)
	tablesAre(t, "tables", w, tablesIn("a=1 b=2 c=3; a=1 b=2 c=3; a=1 b=2"))
	// eight times the same proof of no pairs, items and roots in one memory
	roots, items := slices.Repeat([]string{rootBySha(nil)}, 8), make([]impl.Item, 0, 4)
	same := impl.Bundle{No: 1, Roots: roots, Proofs: slices.Repeat([]impl.Proof{{Items: items}}, 8)}
	checks(t, "one memory", superIn(same), "", "", same, nil)
}

// What lies behind the end of a list is in no bundle and in no table, and is not checked.
func TestWhatLiesBehindTheEndIsNotProved(t *testing.T) {
	tables := tablesBy(2, 3, 1)
	s := sealedBy(tables)
	short := impl.Seal{No: s.No, Prev: s.Prev, Super: s.Super, Roots: s.Roots[:2]}
	if b := impl.MakeBundle(short, tables, "", ""); !sameBundle(b, impl.Bundle{}) {
		t.Errorf("a root behind the end: %v", bundleTold(b))
	}
	if b := impl.MakeBundle(s, tables[:2], "", ""); !sameBundle(b, impl.Bundle{}) {
		t.Errorf("a table behind the end: %v", bundleTold(b))
	}
	b := impl.MakeBundle(s, tables, "", "")
	less := copyBundle(b)
	less.Proofs = less.Proofs[:2]
	checksNot(t, "a proof behind the end", s.Super, "", "", less)
	less.Roots, less.Proofs = less.Roots[:2], less.Proofs[:3]
	checksNot(t, "a root behind the end", s.Super, "", "", less)
	checksNot(t, "a root behind the end, by its Super", superIn(less), "", "", less)
	more := copyBundle(b)
	more.Roots, more.Proofs = append(more.Roots, shaOf())[:3], append(more.Proofs, impl.Proof{N: 9})[:3]
	checks(t, "more behind the end", s.Super, "", "", more, allIn(tables))
	w := tabled("a=1 b=2", "c=3")
	w.Shards[0].Map = w.Shards[0].Map[:1]
	w.Shards = w.Shards[:1]
	tablesAre(t, "a pair and a shard behind the end", w, tablesIn("a=1"))
}

// weakTables: tables of their shards, with few keys.
func weakTables(from *rand.Rand, n int) []impl.Table {
	tables := make([]impl.Table, n)
	for _, p := range weakPairs(from, from.Intn(6)) {
		at := shardByFnv(p.Key, n)
		tables[at].Pairs = append(tables[at].Pairs, p)
	}
	return tables
}

func weakRoots(l []impl.Table) []string {
	list := []string{}
	for _, table := range l {
		list = append(list, impl.RootOf(table.Pairs))
	}
	return list
}

// superBytes is what is hashed for a seal's Super.
func superBytes(no int, prev string, roots []string) string {
	return string(impl.PutTexts(impl.PutText(impl.PutNum([]byte{3}, no), prev), roots))
}

// What is checked against a seal's digest is all of all tables that is between, or there is a clash: of what is hashed for the Super, or of an item on its way to a root that is the seal's own.
func TestWeakBundlesThatLie(t *testing.T) {
	from := weakAlone(t)
	m := seen{}
	for range 60000 {
		n := 1 + from.Intn(3)
		tables := weakTables(from, n)
		no, prev, roots := 1+from.Intn(3), impl.Digest(nil), weakRoots(tables)
		super := impl.SuperOf(no, prev, roots)
		lo, hi := []string{"", "k11", "k13", "k15"}[from.Intn(4)], []string{"", "k12", "k14", "k17"}[from.Intn(4)]
		told, b := tables, impl.Bundle{No: no, Prev: prev, Roots: roots}
		if from.Intn(3) == 0 {
			told = weakTables(from, 1+from.Intn(3))
			b = impl.Bundle{No: 1 + from.Intn(3), Prev: prev, Roots: weakRoots(told)}
		}
		for _, table := range told {
			f := impl.ProveBetween(table.Pairs, lo, hi)
			if from.Intn(2) == 0 {
				f = weakProof(from, table.Pairs)
			}
			b.Proofs = append(b.Proofs, f)
		}
		got, ok := impl.CheckBundle(super, lo, hi, b)
		switch {
		case !ok:
			m["refused"]++
			continue
		case slices.Equal(got, insideByHand(allIn(tables), lo, hi)):
			m["all that is between"]++
			continue
		}
		if ours, theirs := superBytes(no, prev, roots), superBytes(b.No, b.Prev, b.Roots); ours != theirs {
			m["another seal"]++
			if !impl.IsClash(ours, theirs, 32) {
				t.Fatalf("%q is taken for %q, and that is no clash", theirs, ours)
			}
			continue
		}
		m["another proof"]++
		if !slices.ContainsFunc(seq(n), func(at int) bool { return clashTold(tables[at].Pairs, b.Proofs[at]) }) {
			t.Fatalf("%v from %q up to %q are told to be %v by %v, and no clash is told", tables, lo, hi, got, bundleTold(b))
		}
	}
	m.atLeast(t, 500, "refused", "all that is between", "another seal", "another proof")
}

// seq gives 0, 1 and so on, n of them.
func seq(n int) []int {
	list := []int{}
	for i := range n {
		list = append(list, i)
	}
	return list
}
