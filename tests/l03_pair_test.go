package tests

import (
	"slices"
	"strings"
	"testing"

	"loop.example/g00244/impl"
)

// pairsOf reads pairs from words of the form KEY=VAL, of which either part may be empty.
func pairsOf(text string) []impl.Pair {
	list := []impl.Pair{}
	for _, word := range strings.Fields(text) {
		key, val, _ := strings.Cut(word, "=")
		list = append(list, impl.Pair{Key: key, Val: val})
	}
	return list
}

// manyPairs gives n pairs that rise, with gaps between their keys: k00a, k01a and so on.
func manyPairs(n int) []impl.Pair {
	list := []impl.Pair{}
	for i := range n {
		key := "k" + string([]byte{'0' + byte(i/10), '0' + byte(i%10)}) + "a"
		list = append(list, impl.Pair{Key: key, Val: strings.Repeat("v", i%21)})
	}
	return list
}

// pairsWithRoom gives l with spare room behind it, and the whole memory, so that a write into either is seen.
// What lies in the room would count, if it were read: it has keys that the tests ask for.
func pairsWithRoom(l []impl.Pair) (given []impl.Pair, whole []impl.Pair) {
	whole = append(slices.Clone(l), pairsOf("a=room b=room c=room d=room zz=room a=room")...)
	return whole[:len(l)], whole
}

// pairLists: rising ones, and such as are not as the chapter wants pairs, of which all functions answer as well.
var pairLists = []string{
	"", "b=1", "b=1 d=2", "b=1 d=2 f=3", "a= b= c=", "b=1 ba=2 c=3 c0=4", "9=1 a=2 a9=3 aa=4",
	"b=1 b=2", "b=1 b=2 b=3", "b=1 d=2 b=3", "d=1 b=2", "f=1 b=2 d=3", "c=1 a=2 c=3 b=4 a=5", "=1 b=2", "=1 =2", "B=1 {=2 b=3",
}

var someKeys = []string{"", "0", "9", "A", "B", "a", "a9", "aa", "b", "b0", "ba", "c", "d", "e", "f", "g", "z", "zz", "{", "\x00", "\xff", "thirteensigns"}

func TestKeysThatAreRight(t *testing.T) {
	for _, s := range []string{"a", "z", "0", "9", "m5", "7up", "abcdefghijkl", "012345678901", "zzzzzzzzzzzz", "a0b1c2d3e4f5"} {
		if !impl.KeyOk(s) {
			t.Errorf("KeyOk(%q) is false", s)
		}
	}
	for size := range 40 {
		if ok := impl.KeyOk(strings.Repeat("k", size)); ok != (size >= 1 && size <= 12) {
			t.Errorf("KeyOk of %d signs: %v", size, ok)
		}
	}
}

func TestEachSignOfAKey(t *testing.T) {
	const signs = "abcdefghijklmnopqrstuvwxyz0123456789"
	for c := range 256 {
		sign := string([]byte{byte(c)})
		want := strings.Contains(signs, sign)
		for _, s := range []string{sign, "a" + sign, sign + "9", "abc" + sign + "def", "abcdefghijk" + sign} {
			if ok := impl.KeyOk(s); ok != want {
				t.Errorf("KeyOk(%q): %v", s, ok)
			}
		}
	}
	for _, s := range []string{"", " ", "a b", "a=", "-a", "Ab", "\u00e4", "\u0661", "abcdefghijklm", "thirteensigns"} {
		if impl.KeyOk(s) {
			t.Errorf("KeyOk(%q) is true", s)
		}
	}
}

func TestPairsThatAreRight(t *testing.T) {
	for size := range 40 {
		val := strings.Repeat("\xff", size)
		if ok := impl.PairOk(impl.Pair{Key: "a", Val: val}); ok != (size <= 20) {
			t.Errorf("PairOk of a value of %d bytes: %v", size, ok)
		}
		if ok := impl.PairsOk([]impl.Pair{{Key: "a"}, {Key: "b", Val: val}}); ok != (size <= 20) {
			t.Errorf("PairsOk with a value of %d bytes: %v", size, ok)
		}
	}
	if !impl.PairOk(impl.Pair{Key: "abcdefghijkl", Val: "\x00 =\n?\u00e4"}) {
		t.Error("a value may have any bytes")
	}
	for _, key := range []string{"", "A", "a b", "abcdefghijklm"} {
		if impl.PairOk(impl.Pair{Key: key, Val: "1"}) {
			t.Errorf("PairOk with key %q is true", key)
		}
	}
}

func TestListsThatAreRight(t *testing.T) {
	for _, text := range []string{"", "a=1", "a=1 b=2", "a= aa= b=", "0=1 9=2 a=3 z=4", "a=1 a0=1 aa=1", "abcdefghijk=1 abcdefghijkl=1"} {
		if !impl.PairsOk(pairsOf(text)) {
			t.Errorf("PairsOk of %q is false", text)
		}
	}
	if !impl.PairsOk(nil) {
		t.Error("PairsOk of nil is false")
	}
	for _, n := range []int{1, 2, 59, impl.MaxPairs} {
		if !impl.PairsOk(manyPairs(n)) {
			t.Errorf("PairsOk of %d pairs is false", n)
		}
	}
	for _, n := range []int{impl.MaxPairs + 1, impl.MaxPairs + 2, 99} {
		if impl.PairsOk(manyPairs(n)) {
			t.Errorf("PairsOk of %d pairs is true", n)
		}
	}
}

func TestListsThatAreWrong(t *testing.T) {
	for _, text := range []string{
		"a=1 a=2", "a=1 a=1", "a=1 b=2 b=3", "a=1 b=2 a=3", "b=1 a=2", "aa=1 a=2", "a=1 9=2", "a=1 c=2 b=3", "c=1 a=2 b=3",
		"=1", "=1 a=2", "A=1 a=2", "a=1 b-=2", "a=1 {=2", "abcdefghijklm=1", "a=1 thirteensigns=2",
		"a=123456789012345678901", "a=123456789012345678901 b=1", "a=1 b=123456789012345678901",
	} {
		if impl.PairsOk(pairsOf(text)) {
			t.Errorf("PairsOk of %q is true", text)
		}
	}
	for i := range impl.MaxPairs - 1 {
		list := manyPairs(impl.MaxPairs)
		list[i], list[i+1] = list[i+1], list[i]
		if impl.PairsOk(list) {
			t.Errorf("PairsOk is true with %d and the next one turned", i)
		}
		list[i+1] = list[i]
		if impl.PairsOk(list) {
			t.Errorf("PairsOk is true with %d twice", i)
		}
	}
}

func TestWhatIsGot(t *testing.T) {
	for _, x := range []struct {
		list, key, val string
		there          bool
	}{
		{"", "a", "", false}, {"", "", "", false},
		{"a=1 c=2 e=3", "a", "1", true}, {"a=1 c=2 e=3", "c", "2", true}, {"a=1 c=2 e=3", "e", "3", true},
		{"a=1 c=2 e=3", "", "", false}, {"a=1 c=2 e=3", "0", "", false}, {"a=1 c=2 e=3", "b", "", false},
		{"a=1 c=2 e=3", "cc", "", false}, {"ab=1", "a", "", false}, {"a=1 c=2 e=3", "f", "", false},
		{"a= b=1", "a", "", true}, {"b=1 b=2", "b", "1", true}, {"a=1 b= b=2", "b", "", true},
		{"c=1 a=2 c=3", "c", "1", true}, {"c=1 a=2", "a", "2", true}, {"=1 a=2", "", "1", true},
	} {
		if val, there := impl.GetKey(pairsOf(x.list), x.key); val != x.val || there != x.there {
			t.Errorf("GetKey(%q, %q) = %q %v", x.list, x.key, val, there)
		}
	}
}

func TestWhereAKeyIsPut(t *testing.T) {
	for _, x := range []struct{ list, key, val, want string }{
		{"", "b", "9", "b=9"}, {"", "", "9", "=9"}, {"", "b", "", "b="},
		{"b=1 d=2", "a", "9", "a=9 b=1 d=2"}, {"b=1 d=2", "", "9", "=9 b=1 d=2"},
		{"b=1 d=2", "c", "9", "b=1 c=9 d=2"}, {"b=1 d=2", "bb", "9", "b=1 bb=9 d=2"},
		{"b=1 d=2", "e", "9", "b=1 d=2 e=9"}, {"b=1 d=2", "dd", "9", "b=1 d=2 dd=9"},
		{"b=1 d=2", "b", "9", "b=9 d=2"}, {"b=1 d=2", "d", "9", "b=1 d=9"}, {"b=1 d=2", "b", "", "b= d=2"}, {"b=1 d=2", "b", "1", "b=1 d=2"},
		{"bb=1", "b", "9", "b=9 bb=1"}, {"a=1", "9", "9", "9=9 a=1"},
		{"b=1 b=2", "b", "9", "b=9 b=2"}, {"a=1 b=2 b=3 c=4", "b", "9", "a=1 b=9 b=3 c=4"}, {"b=1 b=2", "a", "9", "a=9 b=1 b=2"}, {"b=1 b=2", "c", "9", "b=1 b=2 c=9"},
		{"d=1 b=2", "b", "9", "d=1 b=9"}, {"d=1 b=2", "c", "9", "c=9 d=1 b=2"}, {"b=1 d=2 a=3", "c", "9", "b=1 c=9 d=2 a=3"}, {"b=1 a=2", "c", "9", "b=1 a=2 c=9"},
		{"a=1", "A", "9", "A=9 a=1"}, {"b!=1", "b", "9", "b=9 b!=1"}, {"a=1", "thirteensigns", "123456789012345678901", "a=1 thirteensigns=123456789012345678901"},
	} {
		if got := impl.PutKey(pairsOf(x.list), x.key, x.val); !slices.Equal(got, pairsOf(x.want)) {
			t.Errorf("PutKey(%q, %q, %q) = %q", x.list, x.key, x.val, got)
		}
	}
	if got := impl.PutKey(nil, "a", "1"); !slices.Equal(got, pairsOf("a=1")) {
		t.Errorf("PutKey into nil is %q", got)
	}
}

func TestAKeyThatIsPutIsGot(t *testing.T) {
	for _, text := range pairLists {
		for _, key := range someKeys {
			list := pairsOf(text)
			put := impl.PutKey(list, key, "new")
			if val, there := impl.GetKey(put, key); val != "new" || !there {
				t.Errorf("%q is put into %q, and got: %q %v", key, text, val, there)
			}
			for _, other := range someKeys {
				val, there := impl.GetKey(put, other)
				was, wasThere := impl.GetKey(list, other)
				if other != key && (val != was || there != wasThere) {
					t.Errorf("%q is put into %q, and %q is %q %v", key, text, other, val, there)
				}
			}
			if impl.PairsOk(list) && impl.KeyOk(key) && !impl.PairsOk(put) {
				t.Errorf("%q is put into %q, which does not rise any more: %q", key, text, put)
			}
		}
	}
}

func TestPairsPutInAnyOrderRise(t *testing.T) {
	want := manyPairs(impl.MaxPairs)
	for _, step := range []int{1, 7, 11, 23, 59} {
		list := []impl.Pair{}
		for i := range want {
			p := want[i*step%len(want)]
			list = impl.PutKey(list, p.Key, "old")
			list = impl.PutKey(list, p.Key, p.Val)
		}
		if !slices.Equal(list, want) || !impl.PairsOk(list) {
			t.Errorf("put in steps of %d: %q", step, list)
		}
		if more := impl.PutKey(list, "a", "1"); len(more) != impl.MaxPairs+1 || impl.PairsOk(more) {
			t.Errorf("one more than MaxPairs: %d", len(more))
		}
		for i := range want {
			list = impl.DelKey(list, want[i*step%len(want)].Key)
			if len(list) != len(want)-1-i || !impl.PairsOk(list) {
				t.Errorf("taken away in steps of %d: %q", step, list)
			}
		}
	}
}

func TestWhatIsTakenAway(t *testing.T) {
	for _, x := range []struct{ list, key, want string }{
		{"", "a", ""}, {"", "", ""}, {"a=1", "a", ""}, {"a=1", "b", "a=1"}, {"a=1", "", "a=1"},
		{"a=1 b=2 c=3", "a", "b=2 c=3"}, {"a=1 b=2 c=3", "b", "a=1 c=3"}, {"a=1 b=2 c=3", "c", "a=1 b=2"}, {"a=1 b=2 c=3", "d", "a=1 b=2 c=3"},
		{"a=1 aa=2", "a", "aa=2"}, {"a=1 aa=2", "aa", "a=1"},
		{"b=1 b=2", "b", ""}, {"a=1 b=2 b=3 c=4", "b", "a=1 c=4"}, {"a=1 b=2 b=3 c=4", "a", "b=2 b=3 c=4"},
		{"b=1 a=2 b=3 c=4 b=5", "b", "a=2 c=4"}, {"c=1 a=2 c=3 b=4", "a", "c=1 c=3 b=4"}, {"c=1 c=1 a=2", "a", "c=1 c=1"},
		{"=1 a=2 =3", "", "a=2"}, {"A=1 a=2", "A", "a=2"},
	} {
		if got := impl.DelKey(pairsOf(x.list), x.key); !slices.Equal(got, pairsOf(x.want)) {
			t.Errorf("DelKey(%q, %q) = %q", x.list, x.key, got)
		}
	}
	if got := impl.DelKey(nil, "a"); len(got) != 0 {
		t.Errorf("DelKey of nil is %q", got)
	}
}

func TestAKeyThatIsTakenAwayIsGone(t *testing.T) {
	for _, text := range pairLists {
		for _, key := range someKeys {
			list := pairsOf(text)
			left := impl.DelKey(list, key)
			if val, there := impl.GetKey(left, key); val != "" || there {
				t.Errorf("%q is taken from %q, and got: %q %v", key, text, val, there)
			}
			want := []impl.Pair{}
			for _, p := range list {
				if p.Key != key {
					want = append(want, p)
				}
			}
			if !slices.Equal(left, want) {
				t.Errorf("DelKey(%q, %q) = %q", text, key, left)
			}
			if back := impl.DelKey(impl.PutKey(left, key, "new"), key); !slices.Equal(back, left) {
				t.Errorf("%q is put into %q, and taken away again: %q", key, left, back)
			}
		}
	}
}

func TestWhatIsBetween(t *testing.T) {
	const list = "b=1 ba=2 d=3 f=4"
	for _, x := range []struct{ list, lo, hi, want string }{
		{list, "", "", list}, {list, "b", "", list}, {list, "a", "", list}, {list, "ba", "", "ba=2 d=3 f=4"}, {list, "f", "", "f=4"}, {list, "g", "", ""}, {list, "ff", "", ""},
		{list, "", "a", ""}, {list, "", "b", ""}, {list, "", "b0", "b=1"}, {list, "", "d", "b=1 ba=2"}, {list, "", "f", "b=1 ba=2 d=3"}, {list, "", "g", list},
		{list, "b", "f", "b=1 ba=2 d=3"}, {list, "b", "ba", "b=1"}, {list, "ba", "d", "ba=2"}, {list, "bb", "e", "d=3"}, {list, "bb", "d", ""}, {list, "c", "cc", ""},
		{list, "b", "b", ""}, {list, "d", "d", ""}, {list, "c", "c", ""}, {list, "f", "b", ""}, {list, "g", "a", ""}, {list, "d", "ba", ""},
		{"", "", "", ""}, {"", "a", "z", ""}, {"", "a", "", ""}, {"", "", "z", ""},
		{"b=1 b=2 c=3", "b", "c", "b=1 b=2"}, {"d=1 a=2 c=3 a=4 b=5", "b", "d", "c=3 b=5"}, {"d=1 a=2 c=3", "c", "", "d=1 c=3"}, {"d=1 a=2 c=3", "", "", "d=1 a=2 c=3"},
		{"=1 a=2", "", "", "=1 a=2"}, {"=1 a=2", "", "a", "=1"}, {"=1 a=2", "\x00", "", "a=2"}, {"A=1 a=2 {=3", "a", "{", "a=2"},
	} {
		if got := impl.Between(pairsOf(x.list), x.lo, x.hi); !slices.Equal(got, pairsOf(x.want)) {
			t.Errorf("Between(%q, %q, %q) = %q", x.list, x.lo, x.hi, got)
		}
	}
	if got := impl.Between(nil, "", ""); len(got) != 0 {
		t.Errorf("Between of nil is %q", got)
	}
	if got := impl.Between(manyPairs(impl.MaxPairs), "k10a", "k20a"); !slices.Equal(got, manyPairs(20)[10:]) {
		t.Errorf("ten of MaxPairs: %q", got)
	}
}

func TestWhatIsUnited(t *testing.T) {
	for _, x := range []struct{ a, b, want string }{
		{"", "", ""}, {"", "a=1 b=2", "a=1 b=2"}, {"a=1 b=2", "", "a=1 b=2"},
		{"a=1 c=2", "b=3 d=4", "a=1 b=3 c=2 d=4"}, {"b=1", "a=2 c=3", "a=2 b=1 c=3"}, {"a=1 b=2", "b=3", "a=1 b=3"}, {"a=1 b=2", "a=3 b=", "a=3 b="},
		{"", "b=1 a=2", "a=2 b=1"}, {"", "b=1 b=2", "b=2"}, {"a=1", "b=1 a=2 b=3 a=4", "a=4 b=3"},
		{"b=1 b=2", "b=3", "b=3 b=2"}, {"b=1 b=2", "", "b=1 b=2"}, {"d=1 b=2", "c=3", "c=3 d=1 b=2"}, {"d=1 b=2", "", "d=1 b=2"}, {"a=1", "=2", "=2 a=1"},
	} {
		if got := impl.UnionOf(pairsOf(x.a), pairsOf(x.b)); !slices.Equal(got, pairsOf(x.want)) {
			t.Errorf("UnionOf(%q, %q) = %q", x.a, x.b, got)
		}
	}
	if got := impl.UnionOf(nil, nil); len(got) != 0 {
		t.Errorf("UnionOf of nil and nil is %q", got)
	}
	list := manyPairs(impl.MaxPairs)
	if got := impl.UnionOf(list, list); !slices.Equal(got, list) {
		t.Errorf("pairs put into themselves: %q", got)
	}
	if got := impl.UnionOf(list[30:], list[:40]); !slices.Equal(got, list) {
		t.Errorf("two parts: %q", got)
	}
}

func TestUnitedIsPutOneByOne(t *testing.T) {
	for _, a := range pairLists {
		for _, b := range pairLists {
			want := pairsOf(a)
			for _, p := range pairsOf(b) {
				want = impl.PutKey(want, p.Key, p.Val)
			}
			if got := impl.UnionOf(pairsOf(a), pairsOf(b)); !slices.Equal(got, want) {
				t.Errorf("UnionOf(%q, %q) = %q", a, b, got)
			}
		}
	}
}

// pairAnswers: each function that answers pairs, at arguments that change nothing, and at such as change something.
var pairAnswers = map[string]func([]impl.Pair) []impl.Pair{
	"PutKey ahead":      func(l []impl.Pair) []impl.Pair { return impl.PutKey(l, "0", "9") },
	"PutKey between":    func(l []impl.Pair) []impl.Pair { return impl.PutKey(l, "c", "9") },
	"PutKey behind":     func(l []impl.Pair) []impl.Pair { return impl.PutKey(l, "z", "9") },
	"PutKey there":      func(l []impl.Pair) []impl.Pair { return impl.PutKey(l, "b", "9") },
	"DelKey there":      func(l []impl.Pair) []impl.Pair { return impl.DelKey(l, "b") },
	"DelKey not there":  func(l []impl.Pair) []impl.Pair { return impl.DelKey(l, "z") },
	"Between all":       func(l []impl.Pair) []impl.Pair { return impl.Between(l, "", "") },
	"Between some":      func(l []impl.Pair) []impl.Pair { return impl.Between(l, "b", "d") },
	"Between none":      func(l []impl.Pair) []impl.Pair { return impl.Between(l, "b", "b") },
	"UnionOf with some": func(l []impl.Pair) []impl.Pair { return impl.UnionOf(l, pairsOf("b=8 c=9 z=7")) },
	"UnionOf with none": func(l []impl.Pair) []impl.Pair { return impl.UnionOf(l, nil) },
	"UnionOf into some": func(l []impl.Pair) []impl.Pair { return impl.UnionOf(pairsOf("b=8 c=9 z=7"), l) },
	"UnionOf into none": func(l []impl.Pair) []impl.Pair { return impl.UnionOf(nil, l) },
	"UnionOf with self": func(l []impl.Pair) []impl.Pair { return impl.UnionOf(l, l) },
}

func TestPairsLeaveTheirArguments(t *testing.T) {
	for name, answer := range pairAnswers {
		for _, text := range pairLists {
			given, whole := pairsWithRoom(pairsOf(text))
			before := slices.Clone(whole)
			first := answer(given)
			if !slices.Equal(whole, before) {
				t.Errorf("%s wrote into its argument %q: %q", name, text, whole)
			}
			if !slices.Equal(first, answer(pairsOf(text))) {
				t.Errorf("%s of %q read behind its list: %q", name, text, first)
			}
			want := slices.Clone(first)
			second := answer(given)
			for i := range second[:cap(second)] {
				second[:cap(second)][i] = impl.Pair{Key: "other", Val: "other"}
			}
			if !slices.Equal(whole, before) || !slices.Equal(first, want) {
				t.Errorf("%s of %q: the answer shares memory", name, text)
			}
			clear(whole)
			if !slices.Equal(first, want) {
				t.Errorf("%s of %q: the answer hangs on its argument afterwards", name, text)
			}
		}
	}
}

func TestAskingLeavesPairs(t *testing.T) {
	for _, text := range pairLists {
		given, whole := pairsWithRoom(pairsOf(text))
		before := slices.Clone(whole)
		if impl.PairsOk(given) != impl.PairsOk(pairsOf(text)) {
			t.Errorf("PairsOk of %q read behind its list", text)
		}
		for _, key := range someKeys {
			val, there := impl.GetKey(given, key)
			if want, wantThere := impl.GetKey(pairsOf(text), key); val != want || there != wantThere {
				t.Errorf("GetKey(%q, %q) read behind its list: %q %v", text, key, val, there)
			}
		}
		if !slices.Equal(whole, before) {
			t.Errorf("%q was written into: %q", text, whole)
		}
	}
}
