package tests

import (
	"bytes"
	"math"
	"math/rand"
	"slices"
	"strconv"
	"strings"
	"testing"

	"loop.example/g00244/impl"
)

const mostShard = 7

// wordOf reads a word: hold 2 7 a=1 -b to shard 2 of transaction 7; vote 2 7 yes; tell 2 7; ask 2 7.
func wordOf(text string) impl.Word {
	parts := strings.SplitN(text, " ", 4)
	kinds := []string{"", "hold", "vote", "tell", "ask"}
	w := impl.Word{Kind: slices.Index(kinds, parts[0])}
	w.Shard, _ = strconv.Atoi(parts[1])
	w.Tx, _ = strconv.Atoi(parts[2])
	if len(parts) > 3 && parts[3] == "yes" {
		w.Yes = true
	} else if len(parts) > 3 {
		w.Ops = opsOf(parts[3])
	}
	return w
}

func sameWord(a impl.Word, b impl.Word) bool {
	return a.Kind == b.Kind && a.Shard == b.Shard && a.Tx == b.Tx && a.Yes == b.Yes && slices.Equal(a.Ops, b.Ops)
}

// wordBytes writes any word, right or not; its orders with their number ahead, if there are any.
func wordBytes(w impl.Word) string {
	b := []byte{}
	for _, n := range []int{w.Kind, w.Shard, w.Tx} {
		b = impl.PutNum(b, n)
	}
	if w.Yes {
		b = append(b, 1)
	} else {
		b = append(b, 0)
	}
	if len(w.Ops) > 0 {
		b = append(b, opsBytes(len(w.Ops), w.Ops)...)
	}
	return string(b)
}

// rightWords: a word of each kind with each edge that Shard and Tx have, both words of those that may say yes, and all right orders.
func rightWords() []impl.Word {
	list := []impl.Word{}
	for _, shard := range []int{0, 1, 6, mostShard} {
		for _, tx := range []int{1, 2, 127, 128, 1000, 16383, 16384, mostTx - 1, mostTx} {
			m := strconv.Itoa(shard) + " " + strconv.Itoa(tx)
			for _, text := range []string{"hold " + m + " a=1 -b c?3 d?", "vote " + m, "vote " + m + " yes", "tell " + m, "tell " + m + " yes", "ask " + m} {
				list = append(list, wordOf(text))
			}
		}
	}
	for i, text := range rightOrders {
		list = append(list, impl.Word{Kind: impl.WordHold, Shard: i % 8, Tx: 1 + i, Ops: opsOf(text)})
	}
	return append(list, greatestWord(), impl.Word{Kind: impl.WordHold, Tx: 7, Ops: []impl.Op{{Kind: impl.OpPut, Key: "a", Val: "\x00\xff;+- \n"}}})
}

// greatestWord has the most bytes that a word can have.
func greatestWord() impl.Word {
	return impl.Word{Kind: impl.WordHold, Shard: mostShard, Tx: mostTx, Ops: greatestRec().Ops}
}

// wordByHand goes by the chapter's words, kind by kind.
func wordByHand(w impl.Word) bool {
	if w.Shard < 0 || w.Shard > 7 || w.Tx < 1 || w.Tx > 1000000 {
		return false
	}
	return w.Kind == 1 && impl.OpsOk(w.Ops) && !w.Yes || (w.Kind == 2 || w.Kind == 3) && len(w.Ops) == 0 || w.Kind == 4 && len(w.Ops) == 0 && !w.Yes
}

func isWord(t *testing.T, want bool, w impl.Word) {
	t.Helper()
	if impl.WordOk(w) != want {
		t.Errorf("WordOk of %#v is %v", w, !want)
	}
	b := impl.PutWord(w)
	if want && string(b) != wordBytes(w) || !want && len(b) != 0 {
		t.Errorf("PutWord of %#v is %x", w, b)
	}
}

func readsWord(t *testing.T, b string, want impl.Word) {
	t.Helper()
	if w, ok := impl.GetWord([]byte(b)); !ok || !sameWord(w, want) {
		t.Errorf("GetWord of %x: %#v %v", b, w, ok)
	}
}

func readsNoWord(t *testing.T, what string, b string) {
	t.Helper()
	if w, ok := impl.GetWord([]byte(b)); ok || !sameWord(w, impl.Word{}) {
		t.Errorf("%s: GetWord of %x: %#v %v", what, b, w, ok)
	}
}

func TestKindsOfWords(t *testing.T) {
	if impl.WordHold != 1 || impl.WordVote != 2 || impl.WordTell != 3 || impl.WordAsk != 4 {
		t.Error("the kinds are", impl.WordHold, impl.WordVote, impl.WordTell, impl.WordAsk)
	}
	kinds := []int{math.MinInt, math.MaxInt, 1 << 32, 1<<32 + 1, 1<<62 + 2, impl.MaxNum}
	for kind := -300; kind <= 300; kind++ {
		kinds = append(kinds, kind)
	}
	for _, kind := range kinds {
		isWord(t, kind >= 2 && kind <= 4, impl.Word{Kind: kind, Tx: 7})
		isWord(t, kind >= 2 && kind <= 4, impl.Word{Kind: kind, Tx: 7, Ops: []impl.Op{}})
		isWord(t, kind == 1, impl.Word{Kind: kind, Tx: 7, Ops: opsOf("a=1")})
		isWord(t, kind == 2 || kind == 3, impl.Word{Kind: kind, Tx: 7, Yes: true})
		isWord(t, false, impl.Word{Kind: kind, Tx: 7, Yes: true, Ops: opsOf("a=1")})
	}
	isWord(t, false, impl.Word{})
}

func TestWhoMaySayYes(t *testing.T) {
	for text, want := range map[string]bool{"vote 2 7": true, "tell 2 7": true, "ask 2 7": false, "hold 2 7 a=1": false, "hold 2 7 a=1 -b c? d?1": false} {
		w := wordOf(text)
		isWord(t, true, w)
		readsWord(t, wordBytes(w), w)
		w.Yes = true
		isWord(t, want, w)
		if want {
			readsWord(t, wordBytes(w), w)
		} else {
			readsNoWord(t, "a yes of "+text, wordBytes(w))
		}
	}
}

func TestShardsAndTransactionsOfWords(t *testing.T) {
	far := []int{math.MinInt, math.MinInt + 1, -mostTx, -8, -7, -1, mostTx * 2, impl.MaxNum, impl.MaxNum + 1, 1 << 32, 1<<32 + 1, math.MaxInt}
	for _, text := range []string{"hold 0 1 a=1", "vote 0 1", "vote 0 1 yes", "tell 0 1", "tell 0 1 yes", "ask 0 1"} {
		w := wordOf(text)
		for _, shard := range append(far, 0, 1, 2, 3, 4, 5, 6, 7, 8, 9, 127, 128, 135, 256) {
			w.Shard = shard
			isWord(t, shard >= 0 && shard <= mostShard, w)
		}
		w.Shard = 3
		for _, tx := range append(far, 0, 1, 2, 127, 128, 999, 1000, 999999, 1000000, 1000001) {
			w.Tx = tx
			isWord(t, tx >= 1 && tx <= mostTx, w)
		}
	}
}

func TestOrdersOfWords(t *testing.T) {
	for kind := range 6 {
		for _, text := range slices.Concat(rightOrders, wrongOrders) {
			ops := opsOf(text)
			for _, yes := range []bool{false, true} {
				w := impl.Word{Kind: kind, Shard: 2, Tx: 7, Ops: ops, Yes: yes}
				isWord(t, wordByHand(w), w)
			}
		}
		for n := range 12 {
			isWord(t, kind == 1 && n >= 1 && n <= 8 || kind >= 2 && kind <= 4 && n == 0, impl.Word{Kind: kind, Tx: 7, Ops: manyOps(n)})
		}
		isWord(t, false, impl.Word{Kind: kind, Tx: 7, Ops: []impl.Op{{}}})
	}
	isWord(t, true, greatestWord())
}

func TestWordsHaveTheirBytes(t *testing.T) {
	for text, want := range map[string]string{
		"hold 2 7 a=1":             "\x01\x02\x07\x00\x01\x01\x01a\x011",
		"hold 0 1 -a":              "\x01\x00\x01\x00\x01\x02\x01a\x00",
		"hold 7 128 a=1 -b c? d?4": "\x01\x07\x80\x01\x00\x04\x01\x01a\x011\x02\x01b\x00\x03\x01c\x00\x03\x01d\x014",
		"vote 0 1":                 "\x02\x00\x01\x00",
		"vote 1 300 yes":           "\x02\x01\xac\x02\x01",
		"vote 7 1000000 yes":       "\x02\x07\xc0\x84\x3d\x01",
		"tell 3 7":                 "\x03\x03\x07\x00",
		"tell 3 7 yes":             "\x03\x03\x07\x01",
		"ask 7 127":                "\x04\x07\x7f\x00",
		"ask 0 1000000":            "\x04\x00\xc0\x84\x3d\x00",
	} {
		if b := impl.PutWord(wordOf(text)); string(b) != want {
			t.Errorf("PutWord(%q) = %x", text, b)
		}
		readsWord(t, want, wordOf(text))
	}
	if b := impl.PutWord(greatestWord()); len(b) != 6+1+8*35 {
		t.Errorf("the greatest word has %d bytes", len(b))
	}
}

func TestWordsComeBackOfTheirBytes(t *testing.T) {
	seen := map[string]impl.Word{}
	for _, w := range rightWords() {
		isWord(t, true, w)
		b := string(impl.PutWord(w))
		readsWord(t, b, w)
		if other, is := seen[b]; is && !sameWord(other, w) {
			t.Errorf("%#v and %#v have the same bytes", other, w)
		}
		seen[b] = w
	}
	for n := 1; n <= 8; n++ {
		w := impl.Word{Kind: impl.WordHold, Shard: 5, Tx: 1000, Ops: manyOps(n)}
		readsWord(t, string(impl.PutWord(w)), w)
	}
}

func TestBytesThatAreNoWord(t *testing.T) {
	if w, ok := impl.GetWord(nil); ok || !sameWord(w, impl.Word{}) {
		t.Errorf("of nil: %#v %v", w, ok)
	}
	for _, w := range rightWords() {
		b := wordBytes(w)
		for cut := range b {
			readsNoWord(t, "cut", b[:cut])
		}
		for _, more := range []string{"\x00", "\x01", "\x80", "\xff", "a", b} {
			readsNoWord(t, "more behind", b+more)
			readsNoWord(t, "more ahead", more+b)
		}
	}
	for _, b := range []string{"\x00", "\x80", "\x02", "\x02\x01", "\x02\x01\x07", "\x00\x00\x00\x00", "\xff\xff\xff\xff", "\xff\xff\xff\xff\xff\xff\xff\xff"} {
		readsNoWord(t, "too few, or none", b)
	}
}

func TestYesesThatAreNeither(t *testing.T) {
	for _, text := range []string{"hold 2 7 a=1", "vote 2 7", "vote 7 300", "tell 2 7", "tell 0 1000000", "ask 2 7"} {
		w := wordOf(text)
		head, orders := wordBytes(impl.Word{Kind: w.Kind, Shard: w.Shard, Tx: w.Tx}), ""
		head = head[:len(head)-1]
		if len(w.Ops) > 0 {
			orders = string(opsBytes(len(w.Ops), w.Ops))
		}
		readsWord(t, head+"\x00"+orders, w)
		for n := 2; n < 700; n++ {
			readsNoWord(t, "neither", head+string(impl.PutNum(nil, n))+orders)
		}
		for _, yes := range []string{"", "\x80\x00", "\x81\x00", "\x80\x80\x00", "\x81\x80\x00", "\x80", "\x81", "\xff\xff\xff\xff\xff\x00", "\x81\x94\xeb\xdc\x03", string(impl.PutNum(nil, impl.MaxNum))} {
			readsNoWord(t, "no such number", head+yes+orders)
		}
	}
}

// A number with a needless group is none, in each place where a word has one.
func TestNumbersOfWordsInAnotherForm(t *testing.T) {
	for _, w := range rightWords() {
		head := impl.Word{Kind: w.Kind, Shard: w.Shard, Tx: w.Tx, Yes: w.Yes}
		b := wordBytes(w)
		at := 0
		for at < len(wordBytes(head)) {
			_, next, _ := impl.GetNum([]byte(b), at)
			long := b[:next-1] + string([]byte{b[next-1] + 128})
			for _, end := range []string{"\x00", "\x80\x00", "\x80\x80\x80\x00", ""} {
				readsNoWord(t, "a needless group, or no end", long+end+b[next:])
			}
			readsNoWord(t, "above MaxNum", b[:at]+"\x81\x94\xeb\xdc\x03"+b[next:])
			readsNoWord(t, "left out", b[:at]+b[next:])
			at = next
		}
	}
}

func TestBytesOfWrongWords(t *testing.T) {
	right, wrong := 0, 0
	for _, kind := range []int{0, 1, 2, 3, 4, 5, 6, 127, 128, 129, 130, 257, 258, impl.MaxNum} {
		for _, shard := range []int{0, 1, 6, 7, 8, 9, 128, 256, impl.MaxNum} {
			for _, tx := range []int{0, 1, 7, mostTx, mostTx + 1, impl.MaxNum} {
				for _, orders := range []string{"", "a=1", "a=1 -b"} {
					for _, yes := range []bool{false, true} {
						w := impl.Word{Kind: kind, Shard: shard, Tx: tx, Ops: opsOf(orders), Yes: yes}
						if wordByHand(w) {
							right++
							readsWord(t, wordBytes(w), w)
						} else {
							wrong++
							readsNoWord(t, "no word", wordBytes(w))
						}
					}
				}
			}
		}
	}
	if right != 84 || wrong < 3000 {
		t.Errorf("%d were right, %d wrong", right, wrong)
	}
	for kind := 1; kind <= 4; kind++ {
		for _, text := range wrongOrders {
			if text != "" {
				readsNoWord(t, text, wordBytes(impl.Word{Kind: kind, Tx: 7, Ops: opsOf(text)}))
			}
		}
		readsNoWord(t, "nine orders", wordBytes(impl.Word{Kind: kind, Tx: 7, Ops: manyOps(9)}))
		readsNoWord(t, "orders that are none", wordBytes(impl.Word{Kind: kind, Tx: 7})+"\x00")
	}
	readsNoWord(t, "a hold without orders", wordBytes(wordOf("hold 2 7")))
}

// Whatever is read is right, and has these bytes and no others.
func TestWordBytesComeBackOfWhatWasRead(t *testing.T) {
	read, not := 0, 0
	ask := func(b []byte) {
		w, ok := impl.GetWord(b)
		if ok {
			read++
		} else {
			not++
		}
		if ok && (!wordByHand(w) || string(impl.PutWord(w)) != string(b)) || !ok && !sameWord(w, impl.Word{}) {
			t.Errorf("GetWord of %x: %#v %v", b, w, ok)
		}
	}
	for _, text := range []string{"hold 2 7 a=1", "hold 0 1000000 -a b=22 c?", "vote 7 300 yes", "vote 2 7", "tell 1 1 yes", "tell 1 1000000", "ask 4 128"} {
		b := []byte(wordBytes(wordOf(text)))
		for at := range b {
			for c := range 256 {
				other := slices.Clone(b)
				other[at] = byte(c)
				ask(other)
			}
			ask(slices.Delete(slices.Clone(b), at, at+1))
			ask(slices.Insert(slices.Clone(b), at, b[at]))
		}
	}
	from := rand.New(rand.NewSource(10))
	for range 30000 {
		b := make([]byte, from.Intn(10))
		for i := range b {
			b[i] = []byte{0, 0, 0, 1, 1, 1, 2, 3, 4, 5, 7, 8, 'a', 0x80, 0xff}[from.Intn(15)]
		}
		ask(b)
	}
	if read < 1000 || not < 1000 {
		t.Errorf("%d were read, %d were not", read, not)
	}
}

func TestWordsLeaveTheirArgument(t *testing.T) {
	for _, w := range append(rightWords(), wordOf("vote 1 7 a=1"), wordOf("hold 8 7 a=1"), wordOf("hold 1 7"), wordOf("hold 1 7 b=1 a=1")) {
		ops, whole := opsWithRoom(w.Ops)
		before := slices.Clone(whole)
		given := w
		given.Ops = ops
		first, second := impl.PutWord(given), impl.PutWord(given)
		for i := range second[:cap(second)] {
			second[:cap(second)][i] ^= 0xff
		}
		if !slices.Equal(whole, before) || impl.WordOk(given) != wordByHand(w) || wordByHand(w) && string(first) != wordBytes(w) || !wordByHand(w) && len(first) != 0 {
			t.Errorf("%#v: written into, read behind, or shared", w)
		}
	}
}

func TestReadingWordsLeavesTheirBytes(t *testing.T) {
	for _, w := range rightWords() {
		given, whole := withRoom(wordBytes(w))
		before := slices.Clone(whole)
		first, ok := impl.GetWord(given)
		second, _ := impl.GetWord(given)
		spoilOps(second.Ops)
		if !bytes.Equal(whole, before) {
			t.Errorf("%#v: the bytes were written into", w)
		}
		clear(whole)
		if !ok || !sameWord(first, w) {
			t.Errorf("%#v: the answer hangs on its argument, or on another answer", w)
		}
	}
}

func TestWordsAreNotReadBehindTheirBytes(t *testing.T) {
	for _, w := range rightWords() {
		whole := []byte(wordBytes(w))
		for cut := range whole {
			if got, ok := impl.GetWord(whole[:cut]); ok || !sameWord(got, impl.Word{}) {
				t.Errorf("%#v, cut at %d, is read behind that", w, cut)
			}
		}
	}
}
