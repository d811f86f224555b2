package tests

import (
	"fmt"
	"math"
	"math/rand"
	"reflect"
	"regexp"
	"slices"
	"strings"
	"testing"
	"unsafe"

	"loop.example/g00244/impl"
)

const plainSigns = "abcdefghijklmnopqrstuvwxyz0123456789"

// aWord has three forms, each with groups of its own: key and value put, key taken away, key and value needed.
var (
	aWord     = regexp.MustCompile(`\A(?:([a-z0-9]{1,12})=([a-z0-9]{0,20})|-([a-z0-9]{1,12})|([a-z0-9]{1,12})\?([a-z0-9]{0,20}))\z`)
	aPlainVal = regexp.MustCompile(`\A[a-z0-9]{0,20}\z`)
)

// parseByHand goes by the chapter's words: cut at each blank, each word in one of three forms, 1 to 8, ascending.
func parseByHand(s string) ([]impl.Op, bool) {
	list := []impl.Op{}
	for _, word := range strings.Split(s, " ") {
		m := aWord.FindStringSubmatch(word)
		if m == nil {
			return nil, false
		}
		o := impl.Op{Kind: impl.OpPut, Key: m[1], Val: m[2]}
		if m[3] != "" {
			o = impl.Op{Kind: impl.OpDel, Key: m[3]}
		} else if m[4] != "" {
			o = impl.Op{Kind: impl.OpNeed, Key: m[4], Val: m[5]}
		}
		if len(list) == 8 || len(list) > 0 && list[len(list)-1].Key >= o.Key {
			return nil, false
		}
		list = append(list, o)
	}
	return list, true
}

func textByHand(l []impl.Op) string {
	for _, o := range l {
		if !aPlainVal.MatchString(o.Val) {
			return ""
		}
	}
	if !impl.OpsOk(l) {
		return ""
	}
	return opsTold(l)
}

func lineByHand(l []impl.Pair) string {
	text := ""
	for i, p := range l {
		if i > 0 {
			text += " "
		}
		text += p.Key + "=" + p.Val
	}
	if len(l) == 0 {
		return "empty"
	}
	return text
}

func parses(t *testing.T, s string, want []impl.Op) {
	t.Helper()
	if l, ok := impl.ParseOps(s); !ok || !slices.Equal(l, want) {
		t.Errorf("ParseOps(%q) = %#v %v", s, l, ok)
	}
}

func parsesNone(t *testing.T, what string, s string) {
	t.Helper()
	if l, ok := impl.ParseOps(s); ok || len(l) != 0 {
		t.Errorf("%s: ParseOps(%q) = %#v %v", what, s, l, ok)
	}
}

// parsesSo holds ParseOps against the words of the chapter, and what it takes against its text; it tells whether it was taken.
func parsesSo(t *testing.T, s string) bool {
	t.Helper()
	want, is := parseByHand(s)
	if !is {
		parsesNone(t, "no orders", s)
		return false
	}
	parses(t, s, want)
	if back := impl.OpsText(want); back != s {
		t.Errorf("OpsText of what %q says is %q", s, back)
	}
	return true
}

func saysOps(t *testing.T, l []impl.Op, want string) {
	t.Helper()
	if s := impl.OpsText(l); s != want {
		t.Errorf("OpsText(%#v) = %q, not %q", l, s, want)
	}
}

func saysPairs(t *testing.T, l []impl.Pair, want string) {
	t.Helper()
	if s := impl.PairsText(l); s != want {
		t.Errorf("PairsText(%#v) = %q, not %q", l, s, want)
	}
}

// plainText gives n letters and digits.
func plainText(from *rand.Rand, n int) string {
	b := make([]byte, n)
	for i := range b {
		b[i] = plainSigns[from.Intn(len(plainSigns))]
	}
	return string(b)
}

// plainOps gives n orders that have a text, with keys and values of every length.
func plainOps(from *rand.Rand, n int) []impl.Op {
	keys := []string{}
	for len(keys) < n {
		if key := plainText(from, 1+from.Intn(12)); !slices.Contains(keys, key) {
			keys = append(keys, key)
		}
	}
	slices.Sort(keys)
	list := []impl.Op{}
	for _, key := range keys {
		o := impl.Op{Kind: 1 + from.Intn(3), Key: key}
		if o.Kind != impl.OpDel {
			o.Val = plainText(from, []int{0, 1, 20, from.Intn(21)}[from.Intn(4)])
		}
		list = append(list, o)
	}
	return list
}

func TestEachKindOfWord(t *testing.T) {
	const longKey, longVal = "abcdefghijkl", "12345678901234567890"
	for s, want := range map[string]impl.Op{
		"a=1":                      {Kind: impl.OpPut, Key: "a", Val: "1"},
		"a=":                       {Kind: impl.OpPut, Key: "a"},
		"-a":                       {Kind: impl.OpDel, Key: "a"},
		"a?1":                      {Kind: impl.OpNeed, Key: "a", Val: "1"},
		"a?":                       {Kind: impl.OpNeed, Key: "a"},
		"0=0":                      {Kind: impl.OpPut, Key: "0", Val: "0"},
		"9?z":                      {Kind: impl.OpNeed, Key: "9", Val: "z"},
		"-0":                       {Kind: impl.OpDel, Key: "0"},
		"z9=9z":                    {Kind: impl.OpPut, Key: "z9", Val: "9z"},
		"empty=":                   {Kind: impl.OpPut, Key: "empty"},
		"-empty":                   {Kind: impl.OpDel, Key: "empty"},
		longKey + "=" + longVal:    {Kind: impl.OpPut, Key: longKey, Val: longVal},
		longKey + "?" + longVal:    {Kind: impl.OpNeed, Key: longKey, Val: longVal},
		"-" + longKey:              {Kind: impl.OpDel, Key: longKey},
		longKey + "=":              {Kind: impl.OpPut, Key: longKey},
		longKey + "?":              {Kind: impl.OpNeed, Key: longKey},
		"a=abcdefghijklmnopqrst":   {Kind: impl.OpPut, Key: "a", Val: "abcdefghijklmnopqrst"},
		"uvwxyz789?uvwxyz0123456x": {Kind: impl.OpNeed, Key: "uvwxyz789", Val: "uvwxyz0123456x"},
	} {
		parses(t, s, []impl.Op{want})
		saysOps(t, []impl.Op{want}, s)
	}
}

func TestWordsStandAsTheyAre(t *testing.T) {
	want := []impl.Op{
		{Kind: impl.OpPut, Key: "a", Val: "1"}, {Kind: impl.OpDel, Key: "b"}, {Kind: impl.OpNeed, Key: "c"}, {Kind: impl.OpNeed, Key: "d", Val: "x2"},
		{Kind: impl.OpPut, Key: "e"}, {Kind: impl.OpDel, Key: "f0"}, {Kind: impl.OpPut, Key: "fa", Val: "fa"}, {Kind: impl.OpNeed, Key: "g", Val: "0"},
	}
	words := []string{"a=1", "-b", "c?", "d?x2", "e=", "-f0", "fa=fa", "g?0"}
	for from := range words {
		for end := from + 1; end <= len(words); end++ {
			s := strings.Join(words[from:end], " ")
			parses(t, s, want[from:end])
			saysOps(t, want[from:end], s)
		}
	}
	for _, s := range rightOrders {
		parses(t, s, opsOf(s))
		saysOps(t, opsOf(s), s)
	}
}

// An empty value is one that is put, or a need of nothing, wherever the word stands; without its sign the word is none.
func TestValuesThatAreEmpty(t *testing.T) {
	for _, sign := range []string{"=", "?"} {
		kind := map[string]int{"=": impl.OpPut, "?": impl.OpNeed}[sign]
		for at := range 4 {
			words, want := strings.Fields("a=1 -b c?3 d=4"), opsOf("a=1 -b c?3 d=4")
			want[at] = impl.Op{Kind: kind, Key: want[at].Key}
			words[at] = want[at].Key + sign
			parses(t, strings.Join(words, " "), want)
			saysOps(t, want, strings.Join(words, " "))
			words[at] = want[at].Key
			parsesNone(t, "a word without a sign", strings.Join(words, " "))
		}
		for n := 1; n <= 8; n++ {
			s, want := "", []impl.Op{}
			for i := range n {
				key := string(rune('a' + i))
				s, want = s+" "+key+sign, append(want, impl.Op{Kind: kind, Key: key})
			}
			parses(t, s[1:], want)
			saysOps(t, want, s[1:])
		}
	}
}

func TestOrdersComeBackOfTheirTexts(t *testing.T) {
	from := rand.New(rand.NewSource(18))
	m := seen{}
	for run := range 8000 {
		n := 1 + run%8
		list := plainOps(from, n)
		s := impl.OpsText(list)
		if s == "" || s != opsTold(list) {
			t.Fatalf("OpsText(%#v) = %q", list, s)
		}
		parses(t, s, list)
		parsesSo(t, s)
		m[fmt.Sprint(n, " orders")]++
		for _, o := range list {
			m[fmt.Sprint("kind ", o.Kind, " with ", len(o.Val))]++
			m[fmt.Sprint("key of ", len(o.Key))]++
		}
	}
	for n := range 21 {
		m.atLeast(t, 20, fmt.Sprint("kind 1 with ", n), fmt.Sprint("kind 3 with ", n))
	}
	for n := 1; n <= 12; n++ {
		m.atLeast(t, 20, fmt.Sprint("key of ", n))
	}
	m.atLeast(t, 1000, "kind 2 with 0", "1 orders", "8 orders")
	for n := range 12 {
		list := manyOps(n)
		back, ok := impl.ParseOps(impl.OpsText(list))
		if right := n >= 1 && n <= 8; ok != right || right && !slices.Equal(back, list) {
			t.Errorf("%d orders come back as %#v %v", n, back, ok)
		}
	}
}

// Each text of a few signs: what is taken has this text and no other, and what is not is no statement by the chapter's words.
func TestTextsComeBackOfTheirOrders(t *testing.T) {
	for _, x := range []struct {
		signs       string
		size, least int
	}{{"ab=?- ", 7, 700}, {"a1z=?-\x00 ", 5, 200}, {"a=- \xc3\xa4", 5, 9}} {
		taken := 0
		var each func(s string)
		each = func(s string) {
			if parsesSo(t, s) {
				taken++
			}
			if len(s) < x.size {
				for i := range len(x.signs) {
					each(s + x.signs[i:i+1])
				}
			}
		}
		each("")
		if taken < x.least {
			t.Errorf("of %q only %d texts were taken", x.signs, taken)
		}
	}
}

func TestTextsOfAnyWords(t *testing.T) {
	from := rand.New(rand.NewSource(181))
	words := strings.Split("a=1 a= -a a?1 a? b=22 b= -b b?22 b? ba=3 -ba c=4 -c c? d=5 e= f?6 -g h=8 i=9 -j k?10 l=11 -m n= z=zz -zz", " ")
	wrong := []string{"", "a", "-", "=", "?", "=1", "?1", "-a=1", "--a", "a==", "a=?", "a?=", "B=1", "b=B", "b=123456789012345678901", "thirteensigns=", "b=\xff", "\t", "b=1\n"}
	taken, not := 0, 0
	for range 60000 {
		list := []string{}
		for range 1 + from.Intn(9) {
			list = append(list, words[from.Intn(len(words))])
		}
		if from.Intn(4) > 0 {
			slices.SortFunc(list, func(a string, b string) int {
				return strings.Compare(strings.TrimLeft(a, "-"), strings.TrimLeft(b, "-"))
			})
		}
		if from.Intn(5) == 0 {
			list[from.Intn(len(list))] = wrong[from.Intn(len(wrong))]
		}
		if parsesSo(t, strings.Join(list, " ")) {
			taken++
		} else {
			not++
		}
	}
	if taken < 5000 || not < 5000 {
		t.Errorf("%d were taken, %d were not", taken, not)
	}
}

func TestTextsThatAreNoOrders(t *testing.T) {
	for what, texts := range map[string][]string{
		"no words":         {"", " ", "  ", "        "},
		"no sign":          {"a", "ab", "1", "abcdefghijkl", "a=1 b", "b c=1", "a=1 b c=1", "empty", "none"},
		"no key":           {"-", "=", "?", "=1", "?1", "- a=1", "a=1 -", "=1 a=2", "a=1 =2", "?1 a=2", "a=1 ?2", "=12345678901234567890"},
		"blanks":           {" a=1", "a=1 ", "  a=1", "a=1  ", "a=1  b=2", "a=1   b=2", "a=1 -b  c?", " a=1 b=2 ", "a =1", "a= 1", "- a", "a ?1", "a? 1"},
		"no blanks":        {"a=1\tb=2", "a=1\nb=2", "a=1\rb=2", "a=1\vb=2", "a=1\fb=2", "a=1\u00a0b=2", "a=1\u2003b=2", "a=1\u3000b=2", "a=1\u0085b=2", "a=1\x00b=2", "a=1,b=2", "a=1;b=2", "a=1-b", "-a-b", "-ab=2", "a=1b=2"},
		"white at an end":  {"a=1\n", "\na=1", "a=1\t", "\ta=1", "a=1\r\n", "-a\n", "a?\n", "a=\n", "a=\t", "\u00a0a=1", "a=1\u00a0", "\ufeffa=1"},
		"not ascending":    {"b=1 a=2", "-b a=1", "b? a?", "a=1 c=2 b=3", "b=1 a=2 c=3", "aa=1 a=2", "a=1 9=2", "z= 0=", "a9=1 a=2"},
		"a key twice":      {"a=1 a=2", "a=1 a=1", "a=1 -a", "-a a=1", "-a -a", "a? a=1", "a?1 a=1", "a?1 a?1", "a=1 b=2 b=3", "a=1 b=2 -b c=3", "a= a?"},
		"nine":             {"a=1 b=2 c=3 d=4 e=5 f=6 g=7 h=8 i=9", "-a -b -c -d -e -f -g -h -i", "a? b? c? d? e? f? g? h? i?", "0= a= b= c= d= e= f= g= h= i="},
		"too long":         {"a=123456789012345678901", "a?123456789012345678901", "a=1 b=123456789012345678901 c=3", "a=1 b?123456789012345678901", "a=" + strings.Repeat("x", 255), "a=" + strings.Repeat("x", 256), "a?" + strings.Repeat("x", 276)},
		"a key too long":   {"abcdefghijklm=1", "-abcdefghijklm", "abcdefghijklm?", "thirteensigns=", "a=1 thirteensigns?", strings.Repeat("k", 255) + "=1", "-" + strings.Repeat("k", 256), strings.Repeat("k", 257) + "?", strings.Repeat("k", 268) + "="},
		"other signs":      {"a=B", "A=1", "-A", "aB=1", "a?B", "a=1_", "a=_", "a=+1", "a=1.5", "a='1'", "a=\"\"", "a_b=1", "a.b=1", "a+=1", "a!=1", "a:=1", "a:1", "a<1", "a=1!", "!a", "+a", "~a", "a=%20", "{=1", "`=1", "/=1", ":=1", "a={", "a=`", "a=/", "a=:"},
		"more signs":       {"a==", "a=?", "a=-", "a?=1", "a??", "a?-", "-a=1", "-a?1", "-a=", "-a?", "--a", "-a-", "a-", "a-=1", "a-b=1", "a=1=2", "a=1?2", "a?1=2", "a?1?2", "a=-1", "a?-1", "==", "=?", "?=", "--", "-=", "-?", "-=1", "-?1", "=a=1", "=-a", "?-a", "a=1-", "-a=1 b=2", "b=2 --c", "a==1 b=2"},
		"above 127":        {"a=\u00e4", "\u00e4=1", "-\u00e4", "a?\u00e4", "a\u00e4=1", "a=1\u00e4", "a=\u0661", "a=\uff11", "\uff41=1", "a\uff1d1", "\u2212a", "a=\U0001d7d9", "a=\u017f", "a\u212a=1"},
		"no UTF-8":         {"\xff", "\x80", "\xc3", "\xff=1", "a\xff=1", "-\xff", "-a\xff", "a=\xff", "a=1\xff", "a=\xff1", "a?\x80", "a\xff1", "a\x801", "\xada", "a=1\xffb=2", "a=1 \xff b=2", "a=1\xa0b=2", "a=\xc3", "a=1\xc3", "a\xc3=1", "-a\xc3", "a\xc3", "a=\xe4\xb8", "a=\xf0\x9f\x98", "\xe4\xb8=1", "a\xf0\x9f\x981", "a=\xc0\xb1", "\xc1\xa1=1", "a=\xed\xa0\x80", "a=1 b=\xc3 c=3", "a=1\xe2\x80 b=2", "a=\xef\xbf\xbd"},
		"bytes below 32":   {"a=\x00", "\x00", "a\x00=1", "a=1\x00", "\x00a=1", "-\x00", "a\x001", "a=\x1f", "a=\x7f", "a=\x01 b=2"},
		"a form of others": {"put a 1", "1:a=1", "a=1 b=2 c", "a=1 and b=2", "0", "--1"},
	} {
		for _, s := range texts {
			if _, is := parseByHand(s); is {
				t.Errorf("%s: %q is one by hand", what, s)
			}
			parsesNone(t, what, s)
		}
	}
}

// What is no word makes no orders of others, wherever it stands among them.
func TestOneWordThatIsNone(t *testing.T) {
	for n := 1; n <= 8; n++ {
		for at := range n {
			for _, bad := range []string{"", "b", "-", "=1", "?1", "-b=1", "--b", "b==", "b=?", "b?=1", "b=B", "B=1", "b=123456789012345678901", "b=\u00e4", "b\xff=1", "b=\x00", "\t", "b\t=1"} {
				words := strings.Split(opsTold(manyOps(n)), " ")
				parses(t, strings.Join(words, " "), manyOps(n))
				words[at] = strings.Replace(bad, "b", manyOps(n)[at].Key, 1)
				parsesNone(t, fmt.Sprint("word ", at), strings.Join(words, " "))
			}
		}
	}
}

func TestHowManyWords(t *testing.T) {
	for n := range 70 {
		words := []string{}
		for i := range n {
			words = append(words, []string{fmt.Sprint("k", 10+i, "=", i), fmt.Sprint("-k", 10+i), fmt.Sprint("k", 10+i, "?")}[i%3])
		}
		s := strings.Join(words, " ")
		if n >= 1 && n <= 8 {
			parses(t, s, opsOf(s))
		} else {
			parsesNone(t, fmt.Sprint(n, " words"), s)
		}
	}
	for size := range 300 {
		val, key := strings.Repeat("v", size), strings.Repeat("k", size)
		for s, right := range map[string]bool{
			"a=" + val: size <= 20, "a?" + val: size <= 20, "a=1 b=" + val + " c=": size <= 20, "-a b?" + val: size <= 20,
			key + "=1": size >= 1 && size <= 12, key + "?1": size >= 1 && size <= 12, "-" + key: size >= 1 && size <= 12, "a= -" + key + " l=": size >= 1 && size <= 12,
		} {
			if parsesSo(t, s) != right {
				t.Errorf("with %d signs: %q is taken: %v", size, s, !right)
			}
		}
	}
}

// Each byte, and each rune whose last byte is that of a sign, in each place of a statement: in place of what stands there, and between.
func TestEachSignOfAStatement(t *testing.T) {
	signs := []string{}
	for c := range 256 {
		signs = append(signs, string([]byte{byte(c)}))
	}
	for _, c := range []rune(plainSigns + " =?-") {
		for _, high := range []rune{0x80, 0x100, 0x200, 0x2000, 0xff00, 0x10000, 0x100000} {
			signs = append(signs, string(c+high))
		}
	}
	for _, s := range []string{"a=1", "-b", "c?3", "d?", "e=", "ab=12 -cd ef?34", "a= b? -c"} {
		taken := 0
		for at := range len(s) + 1 {
			for _, sign := range signs {
				if parsesSo(t, s[:at]+sign+s[at:]) {
					taken++
				}
				if at < len(s) && parsesSo(t, s[:at]+sign+s[at+1:]) {
					taken++
				}
			}
			if at < len(s) {
				parsesSo(t, s[:at]+s[at+1:])
				parsesSo(t, s[:at])
				parsesSo(t, s[at+1:])
			}
		}
		if taken < 70 {
			t.Errorf("of %q only %d with another sign were taken", s, taken)
		}
	}
	for c := range 256 {
		sign := string([]byte{byte(c)})
		right := strings.Contains(plainSigns, sign)
		for _, s := range []string{"a=" + sign, "a?" + sign, "-" + sign, sign + "=", sign + "?1", "a=1" + sign + "2"} {
			if parsesSo(t, s) != right {
				t.Errorf("%q is taken: %v", s, !right)
			}
		}
	}
}

func TestTextsCutInTheMidstOfARune(t *testing.T) {
	for _, r := range []string{"\u00e4", "\u0153", "\u4e2d", "\u20ac", "\U0001f600", "\U0010ffff"} {
		for cut := 1; cut <= len(r); cut++ {
			for _, part := range []string{r[:cut], r[len(r)-cut:], r[cut-1 : cut]} {
				for _, s := range []string{"#=1", "a#=1", "#a=1", "a=#", "a=1#", "a=#1", "a#1", "a#", "-#", "-a#", "#a", "a?#", "a?1#", "a=1#b=2", "a=1 #", "# a=1", "a=1 #b=2", "a=1# b=2", "a=1 b=# c=3", "#", "a=#####"} {
					parsesNone(t, "cut", strings.ReplaceAll(s, "#", part))
				}
			}
		}
	}
}

func TestStatementsWithoutAnEnd(t *testing.T) {
	const many = 1 << 20
	for what, s := range map[string]string{
		"letters": strings.Repeat("a", many), "a long value": "a=" + strings.Repeat("1", many), "a long need": "a?" + strings.Repeat("1", many), "a long key": "-" + strings.Repeat("a", many),
		"signs": strings.Repeat("-", many), "puts": strings.Repeat("=", many), "blanks": strings.Repeat(" ", many), "words": strings.Repeat("a=1 ", many), "bytes": strings.Repeat("\xff", many),
		"a word behind": "a=1 " + strings.Repeat("b", many), "a word ahead": strings.Repeat("a", many) + " b=1", "all bytes": mixedText(many),
	} {
		if l, ok := impl.ParseOps(s); ok || len(l) != 0 {
			t.Errorf("%s: %d orders, %v", what, len(l), ok)
		}
	}
	saysOps(t, []impl.Op{{Kind: impl.OpPut, Key: "a", Val: strings.Repeat("1", many)}}, "")
	saysOps(t, slices.Repeat(opsOf("a=1"), many), "")
}

func TestOrdersThatHaveNoText(t *testing.T) {
	saysOps(t, nil, "")
	saysOps(t, []impl.Op{}, "")
	saysOps(t, []impl.Op{{}}, "")
	for _, text := range wrongOrders {
		saysOps(t, opsOf(text), "")
	}
	for n := range 70 {
		want := ""
		if n >= 1 && n <= 8 {
			want = opsTold(manyOps(n))
		}
		saysOps(t, manyOps(n), want)
	}
	for _, kind := range []int{0, 4, 5, -1, -3, 257, 1 << 32, 1<<32 + 1, math.MinInt, math.MaxInt} {
		for n := 1; n <= 8; n++ {
			for at := range n {
				list := manyOps(n)
				list[at].Kind = kind
				saysOps(t, list, "")
			}
		}
	}
	for at := range 8 {
		key := manyOps(8)[at].Key
		for _, bad := range []impl.Op{
			{Kind: impl.OpPut, Key: key, Val: strings.Repeat("v", 21)}, {Kind: impl.OpNeed, Key: key, Val: strings.Repeat("v", 21)}, {Kind: impl.OpDel, Key: key, Val: "v"},
			{Kind: impl.OpPut, Key: "K"}, {Kind: impl.OpPut}, {Kind: impl.OpDel}, {Kind: impl.OpNeed}, {Kind: impl.OpPut, Key: key + " ", Val: "1"}, {Kind: impl.OpDel, Key: "-" + key},
			{Kind: impl.OpPut, Key: key + "=", Val: "1"}, {Kind: impl.OpNeed, Key: key + "?"}, {Kind: impl.OpDel, Key: key + "aaaaaaaaaa"}, {Kind: impl.OpDel, Key: key + "\xff"},
		} {
			list := manyOps(8)
			list[at] = bad
			saysOps(t, list, "")
			saysOps(t, []impl.Op{bad}, "")
		}
	}
	for at := range 7 {
		list := manyOps(8)
		list[at], list[at+1] = list[at+1], list[at]
		saysOps(t, list, "")
		list[at+1] = list[at]
		saysOps(t, list, "")
	}
}

// A Val of other bytes is right in an order, and has no text: whichever order it stands in, and wherever in the Val.
func TestValuesThatHaveNoText(t *testing.T) {
	for _, n := range []int{1, 2, 3, 8} {
		for at := range n {
			for _, kind := range []int{impl.OpPut, impl.OpNeed} {
				says := func(val string) {
					list := manyOps(n)
					list[at] = impl.Op{Kind: kind, Key: list[at].Key, Val: val}
					if !impl.OpsOk(list) {
						t.Fatalf("%#v is not OpsOk", list)
					}
					saysOps(t, list, textByHand(list))
				}
				for c := range 256 {
					sign := string([]byte{byte(c)})
					for _, val := range []string{sign, "ab" + sign, sign + "ab", "ab" + sign + "cd", "1234567890123456789" + sign} {
						says(val)
					}
				}
				for _, val := range []string{"", "\u00e4", "a\u0661", "\u0161", "\u013d", "\u0120", "\uff11", "\xc3", "\xe4\xb8", "\ufffd", "b=1", " -b", "1 b=2", strings.Repeat("\xff", 20)} {
					says(val)
				}
			}
		}
	}
	for _, val := range []string{"A", " ", "=", "?", "-", "\xe4", "\u00e4", "\x00", "a b", "a\n", "\t"} {
		for at := range 3 {
			list := opsOf("a=1 b?2 c=3")
			list[at].Val = val
			saysOps(t, list, "")
			list[at].Val = "x"
			saysOps(t, list, opsTold(list))
		}
	}
}

func TestPairsHaveTheirText(t *testing.T) {
	saysPairs(t, nil, "empty")
	saysPairs(t, []impl.Pair{}, "empty")
	saysPairs(t, []impl.Pair{{Key: "a", Val: "1"}}[:0], "empty")
	for _, s := range []string{"a=1", "a=", "empty=", "a=1 b=2", "a= b=", "a= b=2", "a=1 b=", "a=1 b= c=3", "9=0 a=1 aa=12345678901234567890 abcdefghijkl=z", "a= b= c= d="} {
		saysPairs(t, pairsOf(s), s)
	}
	for n := range 70 {
		saysPairs(t, manyPairs(n), lineByHand(manyPairs(n)))
	}
	for n := 1; n <= 8; n++ {
		want := []impl.Op{}
		for _, p := range manyPairs(n) {
			want = append(want, impl.Op{Kind: impl.OpPut, Key: p.Key, Val: p.Val})
		}
		parses(t, impl.PairsText(manyPairs(n)), want)
		saysOps(t, want, impl.PairsText(manyPairs(n)))
	}
	saysPairs(t, impl.Apply(nil, opsOf("a=1 b= c=3")), "a=1 b= c=3")
	saysPairs(t, impl.Apply(pairsOf("a=1"), opsOf("-a")), "empty")
}

// No pair is refused: each stands as it is, whatever it has.
func TestPairsThatAreNotRightHaveTheirText(t *testing.T) {
	for _, s := range pairLists[1:] {
		saysPairs(t, pairsOf(s), s)
	}
	for _, x := range []struct {
		want  string
		pairs []impl.Pair
	}{
		{"=", []impl.Pair{{}}}, {"= =", []impl.Pair{{}, {}}}, {"=1", []impl.Pair{{Val: "1"}}}, {"A=B", []impl.Pair{{Key: "A", Val: "B"}}},
		{"b=1 a=2 b=1", pairsOf("b=1 a=2 b=1")}, {"a==", []impl.Pair{{Key: "a", Val: "="}}}, {"a==1", []impl.Pair{{Key: "a=", Val: "1"}}}, {" = ", []impl.Pair{{Key: " ", Val: " "}}},
		{"a= 1  b=", []impl.Pair{{Key: "a", Val: " 1 "}, {Key: "b"}}}, {"a=\n", []impl.Pair{{Key: "a", Val: "\n"}}}, {"\xff=\x00\xc3 \u00e4=\ufffd", []impl.Pair{{Key: "\xff", Val: "\x00\xc3"}, {Key: "\u00e4", Val: "\ufffd"}}},
		{"-a=1 a?=2", []impl.Pair{{Key: "-a", Val: "1"}, {Key: "a?", Val: "2"}}}, {"thirteensigns=123456789012345678901", []impl.Pair{{Key: "thirteensigns", Val: "123456789012345678901"}}},
		{"empty=empty", []impl.Pair{{Key: "empty", Val: "empty"}}}, {"a=" + strings.Repeat("x", 5000), []impl.Pair{{Key: "a", Val: strings.Repeat("x", 5000)}}},
	} {
		saysPairs(t, x.pairs, x.want)
	}
	many := slices.Repeat(pairsOf("a=1 b="), 50000)
	saysPairs(t, many, strings.Repeat("a=1 b= ", 49999)+"a=1 b=")
}

func TestAnyOrdersAndPairsAreAnswered(t *testing.T) {
	from := rand.New(rand.NewSource(182))
	m := seen{}
	for range 30000 {
		ops, pairs := []impl.Op{}, []impl.Pair{}
		scatter(from, reflect.ValueOf(&ops).Elem())
		scatter(from, reflect.ValueOf(&pairs).Elem())
		saysOps(t, ops, textByHand(ops))
		saysPairs(t, pairs, lineByHand(pairs))
		m.noteIf("a text", impl.OpsText(ops) != "")
		m.noteIf("no text", impl.OpsText(ops) == "")
		text := mixedText(from.Intn(300))
		parsesSo(t, text[from.Intn(len(text)+1):])
	}
	m.atLeast(t, 100, "a text", "no text")
}

// turning gives a text whose memory turns to other bytes when it is told to: what was made of it must stay.
func turning(s string) (text string, turn func()) {
	b := []byte(s)
	return unsafe.String(unsafe.SliceData(b), len(b)), func() {
		for i := range b {
			b[i] = '#'
		}
	}
}

func TestParsingSharesNothing(t *testing.T) {
	for _, s := range slices.Concat(rightOrders, wrongOrders, []string{"a", "a= ", opsTold(manyOps(8)), opsTold(manyOps(9))}) {
		text, turn := turning(s)
		first, ok := impl.ParseOps(text)
		second, _ := impl.ParseOps(text)
		if text != s {
			t.Errorf("%q: the text was written into", s)
		}
		shareNothing(t, s, first, second)
		spoilOps(second)
		turn()
		want, is := parseByHand(s)
		if ok != is || !slices.Equal(first, want) {
			t.Errorf("%q: the answer hangs on its argument, or on another answer: %#v", s, first)
		}
	}
}

func TestTextsLeaveTheirArguments(t *testing.T) {
	for _, s := range slices.Concat(rightOrders, wrongOrders, []string{opsTold(manyOps(8)), opsTold(manyOps(9))}) {
		ops, whole := opsWithRoom(opsOf(s))
		before := slices.Clone(whole)
		if got := impl.OpsText(ops); got != textByHand(opsOf(s)) || !slices.Equal(whole, before) {
			t.Errorf("%q: written into, or read behind: %q", s, got)
		}
	}
	for _, s := range append(slices.Clone(pairLists), lineByHand(manyPairs(60))) {
		pairs, whole := pairsWithRoom(pairsOf(s))
		before := slices.Clone(whole)
		if got := impl.PairsText(pairs); got != lineByHand(pairsOf(s)) || !slices.Equal(whole, before) {
			t.Errorf("%q: written into, or read behind: %q", s, got)
		}
	}
}

func TestTextsShareNothing(t *testing.T) {
	for _, x := range [][2]string{{"a", "1"}, {"ab", ""}, {"abcdefghijkl", "12345678901234567890"}} {
		key, turnKey := turning(x[0])
		val, turnVal := turning(x[1])
		put := impl.OpsText([]impl.Op{{Kind: impl.OpPut, Key: key, Val: val}})
		need := impl.OpsText([]impl.Op{{Kind: impl.OpNeed, Key: key, Val: val}})
		gone := impl.OpsText([]impl.Op{{Kind: impl.OpDel, Key: key}})
		two := impl.OpsText([]impl.Op{{Kind: impl.OpDel, Key: "0"}, {Kind: impl.OpPut, Key: key, Val: val}})
		pair := impl.PairsText([]impl.Pair{{Key: key, Val: val}})
		pairs := impl.PairsText([]impl.Pair{{Key: key}, {Val: val}})
		turnKey()
		turnVal()
		for got, want := range map[string]string{put: x[0] + "=" + x[1], need: x[0] + "?" + x[1], gone: "-" + x[0], two: "-0 " + x[0] + "=" + x[1], pair: x[0] + "=" + x[1], pairs: x[0] + "= =" + x[1]} {
			if got != want {
				t.Errorf("%q hangs on its argument: %q", want, got)
			}
		}
	}
}

// What is not taken leaves nothing behind: between others, each text is answered as it is alone.
func TestStatementsAreAnsweredAlone(t *testing.T) {
	texts := slices.Concat(rightOrders, wrongOrders, []string{"a=", "a=1 b", "-", "a==", "a=1 b=2 ", "\xff"})
	from := rand.New(rand.NewSource(183))
	for range 5000 {
		parsesSo(t, texts[from.Intn(len(texts))])
	}
}
