package tests

import (
	"bytes"
	"fmt"
	"math"
	"math/rand"
	"slices"
	"strconv"
	"strings"
	"testing"

	"loop.example/g00244/impl"
)

const mostTx = 1000000

// recsOf reads records, with ; between: 7 a=1 -b holds these orders by transaction 7, 7+ is done, 7- is gone.
func recsOf(text string) []impl.Rec {
	list := []impl.Rec{}
	for _, part := range strings.Split(text, ";") {
		head, orders, _ := strings.Cut(strings.TrimSpace(part), " ")
		r := impl.Rec{Kind: impl.RecHold, Ops: opsOf(orders)}
		switch {
		case head == "":
			continue
		case strings.HasSuffix(head, "+"):
			r.Kind = impl.RecDone
		case strings.HasSuffix(head, "-"):
			r.Kind = impl.RecGone
		}
		r.Tx, _ = strconv.Atoi(strings.TrimRight(head, "+-"))
		list = append(list, r)
	}
	return list
}

func recOf(text string) impl.Rec {
	return recsOf(text)[0]
}

func sameRec(a impl.Rec, b impl.Rec) bool {
	return a.Kind == b.Kind && a.Tx == b.Tx && slices.Equal(a.Ops, b.Ops)
}

func sameRecs(a []impl.Rec, b []impl.Rec) bool {
	return slices.EqualFunc(a, b, sameRec)
}

func isZeroRec(r impl.Rec) bool {
	return sameRec(r, impl.Rec{})
}

func copyRecs(l []impl.Rec) []impl.Rec {
	out := slices.Clone(l)
	for i := range out {
		out[i].Ops = slices.Clone(out[i].Ops)
	}
	return out
}

// recBody writes any record's body, right or not; its orders with their number ahead, if there are any.
func recBody(r impl.Rec) string {
	b := impl.PutNum(impl.PutNum(nil, r.Kind), r.Tx)
	if len(r.Ops) > 0 {
		b = append(b, opsBytes(len(r.Ops), r.Ops)...)
	}
	return string(b)
}

// sealedBody has the length and the digest that the body must have, whatever it is.
func sealedBody(body string) string {
	return string(impl.PutNum(nil, len(body))) + body + shaOf(body)[:4]
}

func recBytes(l []impl.Rec) string {
	out := ""
	for _, r := range l {
		out += sealedBody(recBody(r))
	}
	return out
}

// rightRecs: a record of each kind with each number of bytes that a Tx has, and of all right orders.
func rightRecs() []impl.Rec {
	list := []impl.Rec{}
	for _, tx := range []int{1, 2, 127, 128, 16383, 16384, mostTx - 1, mostTx} {
		list = append(list, impl.Rec{Kind: impl.RecHold, Tx: tx, Ops: opsOf("a=1 -b c?3 d?")}, impl.Rec{Kind: impl.RecDone, Tx: tx}, impl.Rec{Kind: impl.RecGone, Tx: tx})
	}
	for i, text := range rightOrders {
		list = append(list, impl.Rec{Kind: impl.RecHold, Tx: 1 + i, Ops: opsOf(text)})
	}
	return append(list, greatestRec(), impl.Rec{Kind: impl.RecHold, Tx: 7, Ops: []impl.Op{{Kind: impl.OpPut, Key: "a", Val: "\x00\xff;+- \n"}}})
}

// greatestRec has the longest body that a record can have.
func greatestRec() impl.Rec {
	r := impl.Rec{Kind: impl.RecHold, Tx: mostTx}
	for i := range 8 {
		r.Ops = append(r.Ops, impl.Op{Kind: impl.OpPut, Key: fmt.Sprintf("abcdefghijk%d", i), Val: strings.Repeat("\x80", 20)})
	}
	return r
}

func isRec(t *testing.T, want bool, r impl.Rec) {
	t.Helper()
	if impl.RecOk(r) != want {
		t.Errorf("RecOk of %#v is %v", r, !want)
	}
	b := impl.PutRec(r)
	if want && string(b) != sealedBody(recBody(r)) || !want && len(b) != 0 {
		t.Errorf("PutRec of %#v is %x", r, b)
	}
}

func noRecAt(t *testing.T, what string, b string, at int) {
	t.Helper()
	if r, next, ok := impl.GetRec([]byte(b), at); ok || next != at || !isZeroRec(r) {
		t.Errorf("%s: GetRec of %x at %d: %#v %d %v", what, b, at, r, next, ok)
	}
}

func recAt(t *testing.T, b string, at int, want impl.Rec, end int) {
	t.Helper()
	if r, next, ok := impl.GetRec([]byte(b), at); !ok || next != end || !sameRec(r, want) {
		t.Errorf("GetRec of %x at %d: %#v %d %v", b, at, r, next, ok)
	}
}

func readsRecs(t *testing.T, what string, b string, want []impl.Rec, end int) {
	t.Helper()
	if l, at := impl.ReadRecs([]byte(b)); at != end || !sameRecs(l, want) {
		t.Errorf("%s: ReadRecs of %x: %#v %d", what, b, l, at)
	}
}

func TestKindsOfRecords(t *testing.T) {
	if impl.RecHold != 1 || impl.RecDone != 2 || impl.RecGone != 3 {
		t.Error("the kinds are", impl.RecHold, impl.RecDone, impl.RecGone)
	}
	kinds := []int{math.MinInt, math.MaxInt, 1 << 32, 1<<32 + 1, 1<<62 + 2, impl.MaxNum}
	for kind := -300; kind <= 300; kind++ {
		kinds = append(kinds, kind)
	}
	for _, kind := range kinds {
		isRec(t, kind == 2 || kind == 3, impl.Rec{Kind: kind, Tx: 7})
		isRec(t, kind == 2 || kind == 3, impl.Rec{Kind: kind, Tx: 7, Ops: []impl.Op{}})
		isRec(t, kind == 1, impl.Rec{Kind: kind, Tx: 7, Ops: opsOf("a=1")})
	}
	isRec(t, false, impl.Rec{})
}

func TestNumbersOfTransactions(t *testing.T) {
	for tx, want := range map[int]bool{
		1: true, 2: true, 127: true, 128: true, 999999: true, mostTx: true,
		0: false, -1: false, -7: false, mostTx + 1: false, mostTx * 2: false, impl.MaxNum: false, impl.MaxNum + 1: false,
		1 << 32: false, 1<<32 + 1: false, math.MinInt: false, math.MinInt + 1: false, math.MaxInt: false,
	} {
		isRec(t, want, impl.Rec{Kind: impl.RecHold, Tx: tx, Ops: opsOf("a=1")})
		isRec(t, want, impl.Rec{Kind: impl.RecDone, Tx: tx})
		isRec(t, want, impl.Rec{Kind: impl.RecGone, Tx: tx})
	}
}

func TestOrdersOfRecords(t *testing.T) {
	for _, text := range slices.Concat(rightOrders, wrongOrders) {
		ops := opsOf(text)
		isRec(t, impl.OpsOk(ops), impl.Rec{Kind: impl.RecHold, Tx: 7, Ops: ops})
		isRec(t, len(ops) == 0, impl.Rec{Kind: impl.RecDone, Tx: 7, Ops: ops})
		isRec(t, len(ops) == 0, impl.Rec{Kind: impl.RecGone, Tx: 7, Ops: ops})
	}
	for n := range 12 {
		isRec(t, n >= 1 && n <= 8, impl.Rec{Kind: impl.RecHold, Tx: 7, Ops: manyOps(n)})
	}
	for kind := range 5 {
		isRec(t, false, impl.Rec{Kind: kind, Tx: 7, Ops: []impl.Op{{}}})
	}
	isRec(t, true, greatestRec())
}

func TestRecordsHaveTheirBytes(t *testing.T) {
	for text, body := range map[string]string{
		"7 a=1":           "\x01\x07\x01\x01\x01a\x011",
		"7 -a":            "\x01\x07\x01\x02\x01a\x00",
		"1 a=1 -b c?3 d?": "\x01\x01\x04\x01\x01a\x011\x02\x01b\x00\x03\x01c\x013\x03\x01d\x00",
		"7+":              "\x02\x07",
		"7-":              "\x03\x07",
		"128+":            "\x02\x80\x01",
		"1000000-":        "\x03\xc0\x84\x3d",
		"1000000 a?":      "\x01\xc0\x84\x3d\x01\x03\x01a\x00",
	} {
		want := string([]byte{byte(len(body))}) + body + shaOf(body)[:4]
		if b := impl.PutRec(recOf(text)); string(b) != want {
			t.Errorf("PutRec(%q) = %x", text, b)
		}
		recAt(t, want, 0, recOf(text), len(want))
	}
	b := impl.PutRec(greatestRec())
	if len(b) != 2+285+4 || b[0] != 128+285%128 || b[1] != 285/128 {
		t.Errorf("a body of 285 bytes: %x", b)
	}
}

func TestRecordsComeBackOfTheirBytes(t *testing.T) {
	for _, r := range rightRecs() {
		b := string(impl.PutRec(r))
		if b != sealedBody(recBody(r)) {
			t.Errorf("PutRec of %#v is %x", r, b)
		}
		for _, ahead := range []string{"", "\x00", "\x80", "ab", b, recBytes(recsOf("3 a=1; 3+; 4-"))} {
			for _, behind := range []string{"", "\x00", "\x80", b, "\x02"} {
				recAt(t, ahead+b+behind, len(ahead), r, len(ahead)+len(b))
			}
		}
	}
}

func TestPlacesWithoutRecords(t *testing.T) {
	for _, b := range []string{"", recBytes(recsOf("7 a=1")), recBytes(recsOf("7 a=1; 7+; 8-"))} {
		for _, at := range []int{math.MinInt, math.MinInt + 1, -1000, -2, -1, len(b), len(b) + 1, len(b) + 1000, math.MaxInt - 1, math.MaxInt} {
			noRecAt(t, "no such place", b, at)
		}
	}
	list := recsOf("7 a=1; 7+; 8-; 9 -b c?1")
	b, starts := recBytes(list), map[int]bool{}
	for i := range list {
		starts[len(recBytes(list[:i]))] = true
	}
	for at := range b {
		if !starts[at] {
			noRecAt(t, "within a record", b, at)
		}
	}
	if r, next, ok := impl.GetRec(nil, 0); ok || next != 0 || !isZeroRec(r) {
		t.Errorf("of nil: %#v %d %v", r, next, ok)
	}
}

func TestRecordsAreReadOneBehindTheOther(t *testing.T) {
	for _, text := range []string{"", "7 a=1", "7+", "7 a=1; 7+", "7+; 7+; 7+", "8-; 7 a=1; 7 a=1; 9-", "1000000 a=1 -b; 1-; 1000000+"} {
		list := recsOf(text)
		b := recBytes(list)
		readsRecs(t, text, b, list, len(b))
		for _, junk := range []string{"\x00", "\x80", "\x02\x02\x07", "\xff\xff\xff\xff\xff", sealedBody(""), sealedBody("\x02"), sealedBody("\x04\x07")} {
			readsRecs(t, text+" and junk", b+junk, list, len(b))
			readsRecs(t, text+", junk and more", b+junk+recBytes(recsOf("5-")), list, len(b))
			readsRecs(t, "junk ahead of "+text, junk+b, nil, 0)
		}
	}
	all := rightRecs()
	readsRecs(t, "all", recBytes(all), all, len(recBytes(all)))
	if l, at := impl.ReadRecs(nil); len(l) != 0 || at != 0 {
		t.Errorf("of nil: %#v %d", l, at)
	}
	many := []impl.Rec{}
	for i := range 3000 {
		many = append(many, impl.Rec{Kind: 2 + i%2, Tx: 1 + i})
	}
	readsRecs(t, "many", recBytes(many), many, len(recBytes(many)))
}

func TestRecordsThatAreCut(t *testing.T) {
	list := append(recsOf("7 a=1; 7+; 300 -b c?1; 8-"), greatestRec(), recOf("1000000+"))
	b := recBytes(list)
	whole, place := 0, 0
	for cut := range len(b) + 1 {
		for whole < len(list) && cut >= len(recBytes(list[:whole+1])) {
			whole++
			place = len(recBytes(list[:whole]))
		}
		readsRecs(t, "cut", b[:cut], list[:whole], place)
		noRecAt(t, "cut short", b[:cut], place)
	}
	if whole != len(list) {
		t.Errorf("%d were whole", whole)
	}
}

func TestRecordsWithALengthThatIsNotTheirs(t *testing.T) {
	for _, r := range slices.Concat(recsOf("7 a=1; 7+; 8-; 1000000 -a b=22 c?"), []impl.Rec{greatestRec()}) {
		body := recBody(r)
		mark := shaOf(body)[:4]
		for size := range 400 {
			head := string(impl.PutNum(nil, size))
			if size != len(body) {
				noRecAt(t, "another length", head+body+mark, 0)
				noRecAt(t, "another length, and more behind", head+body+mark+strings.Repeat(body+mark, 3), 0)
			}
		}
		for _, size := range []int{16384, impl.MaxNum - 4, impl.MaxNum} {
			noRecAt(t, "a great length", string(impl.PutNum(nil, size))+body+mark, 0)
		}
		head := impl.PutNum(nil, len(body))
		head[len(head)-1] += 128
		for _, more := range []string{"\x00", "\x80\x00", "\x80\x80\x80\x00", "\x80\x80\x80\x80\x00", ""} {
			noRecAt(t, "a length with needless bytes, or without its end", string(head)+more+body+mark, 0)
		}
	}
	for _, b := range []string{"", "\x80", "\xff", "\x80\x80", "\xff\xff\xff\xff", "\xff\xff\xff\xff\xff\xff", "\x80\x00", "\x80\x94\xeb\xdc\x03", "\x81\x94\xeb\xdc\x03"} {
		noRecAt(t, "a length alone", b, 0)
		readsRecs(t, "a length alone", b, nil, 0)
	}
}

func TestRecordsWithABitTurned(t *testing.T) {
	ahead := recsOf("3-; 4 z=1")
	for _, r := range append(recsOf("7 a=1; 7+; 8-; 1000000 -a b=22 c?; 130 a=1 -b c?3 d?"), greatestRec()) {
		b := sealedBody(recBody(r))
		for at := range len(b) {
			for bit := range 8 {
				turned := []byte(b)
				turned[at] ^= 1 << bit
				noRecAt(t, "a bit turned", string(turned), 0)
				readsRecs(t, "a bit turned", recBytes(ahead)+string(turned)+b, ahead, len(recBytes(ahead)))
			}
		}
	}
}

// A body that is none is none with the right length and digest, too.
func TestBodiesThatAreNone(t *testing.T) {
	for _, r := range rightRecs() {
		body := recBody(r)
		for _, more := range []string{"\x00", "\x01", "\x80", "a", body} {
			noRecAt(t, "more behind", sealedBody(body+more), 0)
		}
		for cut := range body {
			_, txAt, _ := impl.GetNum([]byte(body), 1)
			if cut != txAt {
				noRecAt(t, "less of it", sealedBody(body[:cut]), 0)
			}
		}
		noRecAt(t, "a kind with a needless byte", sealedBody(string([]byte{body[0] + 128, 0})+body[1:]), 0)
		_, txAt, _ := impl.GetNum([]byte(body), 1)
		noRecAt(t, "a Tx with a needless byte", sealedBody(body[:txAt-1]+string([]byte{body[txAt-1] + 128, 0})+body[txAt:]), 0)
	}
	for _, body := range []string{"", "\x01", "\x02", "\x80", "\x02\x80", "\x02\xff\xff\xff\xff\xff", "\x02\x81\x94\xeb\xdc\x03", "\x01\x07\x00", "\x02\x07\x00", "\x03\x07\x00"} {
		noRecAt(t, "no body", sealedBody(body), 0)
	}
	body := recBody(recOf("7 a=1"))
	for _, mark := range []string{"\x00\x00\x00\x00", shaOf(body)[1:5], shaOf(body)[28:], shaOf(sealedBody(body))[:4], shaOf()[:4], shaOf(body)[:3] + "\x00"} {
		noRecAt(t, "another digest", string([]byte{byte(len(body))})+body+mark, 0)
	}
}

func TestBodiesOfWrongRecords(t *testing.T) {
	for _, kind := range []int{0, 1, 2, 3, 4, 5, 127, 128, 129, 130, 257, 258, impl.MaxNum} {
		for _, tx := range []int{0, 1, 7, mostTx, mostTx + 1, impl.MaxNum} {
			for _, orders := range []string{"", "a=1", "a=1 -b"} {
				r := impl.Rec{Kind: kind, Tx: tx, Ops: opsOf(orders)}
				b := sealedBody(recBody(r))
				right := tx >= 1 && tx <= mostTx && (kind == 1 && orders != "" || (kind == 2 || kind == 3) && orders == "")
				if right {
					recAt(t, b, 0, r, len(b))
				} else {
					noRecAt(t, "no record", b, 0)
				}
			}
		}
	}
	for _, text := range wrongOrders {
		for kind := 1; kind <= 3; kind++ {
			if text != "" {
				noRecAt(t, text, sealedBody(recBody(impl.Rec{Kind: kind, Tx: 7, Ops: opsOf(text)})), 0)
			}
		}
	}
	noRecAt(t, "nine orders", sealedBody(recBody(impl.Rec{Kind: impl.RecHold, Tx: 7, Ops: manyOps(9)})), 0)
}

// Whatever is read is right, and has these bytes and no others.
func TestRecordBytesComeBackOfWhatWasRead(t *testing.T) {
	read, not := 0, 0
	ask := func(body string) {
		b := sealedBody(body)
		r, next, ok := impl.GetRec([]byte(b), 0)
		if ok {
			read++
		} else {
			not++
		}
		if ok && (!impl.RecOk(r) || next != len(b) || string(impl.PutRec(r)) != b) || !ok && (next != 0 || !isZeroRec(r)) {
			t.Errorf("GetRec of %x: %#v %d %v", b, r, next, ok)
		}
	}
	for _, text := range []string{"7 a=1", "7+", "300-", "1000000 -a b=22 c?", "1 a? b?1"} {
		body := []byte(recBody(recOf(text)))
		for at := range body {
			for c := range 256 {
				other := slices.Clone(body)
				other[at] = byte(c)
				ask(string(other))
			}
			ask(string(slices.Delete(slices.Clone(body), at, at+1)))
			ask(string(slices.Insert(slices.Clone(body), at, body[at])))
		}
	}
	from := rand.New(rand.NewSource(8))
	for range 30000 {
		body := make([]byte, from.Intn(9))
		for i := range body {
			body[i] = []byte{0, 1, 1, 1, 2, 2, 3, 4, 'a', 'b', 0x80, 0xff}[from.Intn(12)]
		}
		ask(string(body))
	}
	if read < 1000 || not < 1000 {
		t.Errorf("%d were read, %d were not", read, not)
	}
}

// replayByHand goes by the chapter's words, and looks through the records ahead each time.
func replayByHand(l []impl.Rec) ([]impl.Pair, []impl.Rec, bool) {
	m, held := []impl.Pair{}, []impl.Rec{}
	for i, r := range l {
		sameTx := func(o impl.Rec) bool { return o.Tx == r.Tx }
		ahead, at := slices.ContainsFunc(l[:i], sameTx), slices.IndexFunc(held, sameTx)
		clash := slices.ContainsFunc(held, func(o impl.Rec) bool {
			return slices.ContainsFunc(o.Ops, func(a impl.Op) bool {
				return slices.ContainsFunc(r.Ops, func(b impl.Op) bool { return a.Key == b.Key })
			})
		})
		switch {
		case len(impl.PutRec(r)) == 0:
			return nil, nil, false
		case r.Kind == impl.RecHold && (ahead || clash || !needsByHand(m, r.Ops)):
			return nil, nil, false
		case r.Kind == impl.RecHold:
			held = append(held, r)
		case at < 0 && (ahead || r.Kind == impl.RecDone):
			return nil, nil, false
		case at >= 0:
			if r.Kind == impl.RecDone {
				m = doneByHand(m, held[at].Ops)
			}
			held = slices.Delete(held, at, at+1)
		}
		if len(m) > 60 {
			return nil, nil, false
		}
	}
	return m, held, true
}

func replays(t *testing.T, what string, l []impl.Rec, pairs []impl.Pair, held []impl.Rec) {
	t.Helper()
	if m, h, ok := impl.ReplayRecs(l); !ok || !slices.Equal(m, pairs) || !sameRecs(h, held) {
		t.Errorf("%s: %q %#v %v", what, m, h, ok)
	}
}

func doesNotFit(t *testing.T, what string, l []impl.Rec) {
	t.Helper()
	if m, h, ok := impl.ReplayRecs(l); ok || len(m) != 0 || len(h) != 0 {
		t.Errorf("%s: %q %#v %v", what, m, h, ok)
	}
}

func TestWhatRecordsMake(t *testing.T) {
	for _, x := range []struct{ recs, pairs, held string }{
		{"", "", ""},
		{"7 a=1", "", "7 a=1"},
		{"7 a=1; 7+", "a=1", ""},
		{"7 a=1; 7-", "", ""},
		{"7-", "", ""}, {"7-; 8-; 1-; 1000000-", "", ""},
		{"7 a=1; 7+; 8 a=2; 8+", "a=2", ""}, {"7 a=1; 7+; 8 a=2; 8-", "a=1", ""}, {"7 a=1; 7+; 8 a=2", "a=1", "8 a=2"},
		{"7 a=1; 7+; 8 -a; 8+", "", ""}, {"7 a=1 b=2; 7+; 8 -a c=3; 8+", "b=2 c=3", ""}, {"7 -a; 7+", "", ""},
		{"9 c=1; 7 a=2; 8 b=3; 8+", "b=3", "9 c=1; 7 a=2"}, {"9 c=1; 7 a=2; 8 b=3; 9+", "c=1", "7 a=2; 8 b=3"}, {"9 c=1; 7 a=2; 8 b=3; 7-", "", "9 c=1; 8 b=3"},
		{"9 c=1; 7 a=2; 8 b=3; 8+; 9+; 7+", "a=2 b=3 c=1", ""}, {"1 a=1; 2 b=2; 3 c=3; 4 d=4", "", "1 a=1; 2 b=2; 3 c=3; 4 d=4"},
		{"7 a=1; 7-; 8 a=2; 8+", "a=2", ""}, {"7 a=1; 7+; 8 a?1; 8+", "a=1", ""}, {"7 a=1; 7+; 8 a?1; 9 b=1; 9+", "a=1 b=1", "8 a?1"},
		{"7 a?; 7+; 8 a?; 8-; 9 a? b=1; 9+", "b=1", ""}, {"7 a=; 7+; 8 -a; 8+; 9 a?", "", "9 a?"},
		{"7 a=1; 8 b?; 7+", "a=1", "8 b?"}, {"8-; 7 a=1; 9-; 7+; 10-", "a=1", ""}, {"1 a=1; 1+; 1000000 a=2; 1000000+", "a=2", ""},
		{"7 a=1; 7+; 8 a=; 8+", "a=", ""}, {"7 b=1 d=2; 7+; 8 a=0 -b c=9 d?2 e?; 8+", "a=0 c=9 d=2", ""},
	} {
		replays(t, x.recs, recsOf(x.recs), pairsOf(x.pairs), recsOf(x.held))
	}
	replays(t, "nil", nil, nil, nil)
}

func TestRecordsThatDoNotFit(t *testing.T) {
	for _, text := range []string{
		"7+", "8 a=1; 7+", "7 a=1; 8+", "7-; 7+", "7 a=1; 7-; 7+", "7 a=1; 7+; 7+", "8-; 7+", "7 a=1; 17+", "1 a=1; 7 b=1; 1+; 1+",
		"7-; 7-", "7 a=1; 7-; 7-", "7 a=1; 7+; 7-", "7 a=1; 7+; 8-; 7-", "8-; 7-; 8-",
		"7 a=1; 7 a=1", "7 a=1; 7 b=1", "7 a=1; 7+; 7 a=1", "7 a=1; 7+; 7 b=1", "7 a=1; 7-; 7 a=1", "7 a=1; 7-; 7 b=1", "7-; 7 a=1", "7-; 8 a=1; 7 b=1", "7 a=1; 8 b=1; 7 c=1",
		"7 a=1; 8 a=1", "7 a=1; 8 a=2", "7 a=1; 8 -a", "7 -a; 8 a=1", "7 a?; 8 a?", "7 a?; 8 a=1", "7 a=1; 8 a?", "7 a=1 b=1 c=1; 8 0=1 c=2", "7 c=1; 8 a=1 b=1 c=1", "7 a=1; 8 b=1; 9 b=1", "7 a=1; 8 b=1; 9 a=1", "7 a=1; 8 b=1; 8+; 9 a=1", "7 a=1; 8 b=1; 8-; 9 a=1",
		"7 a?1", "7 a=1; 7+; 8 a?2", "7 a=1; 7+; 8 a?", "7 a=; 7+; 8 a?", "7 a=1; 7-; 8 a?1", "7 a=1; 7+; 8 -a; 8+; 9 a?1", "7 a=1; 8 b?1", "7 a=1; 7+; 8 b=1 c?1", "7 a=1; 7+; 8 a?1 b=1 c?1",
	} {
		doesNotFit(t, text, recsOf(text))
		doesNotFit(t, "behind others: "+text, recsOf("100 x=1; 100+; 101 y=2; 102-;"+text))
		doesNotFit(t, "ahead of others: "+text, recsOf(text+"; 103 x=1; 103+; 104 y=2; 105-"))
	}
}

func TestWrongRecordsDoNotFit(t *testing.T) {
	a := opsOf("a=1")
	for _, wrong := range []impl.Rec{
		{}, {Kind: impl.RecHold}, {Kind: impl.RecHold, Tx: 9}, {Kind: impl.RecHold, Ops: a}, {Kind: impl.RecHold, Tx: mostTx + 1, Ops: a}, {Kind: impl.RecHold, Tx: -9, Ops: a},
		{Kind: impl.RecHold, Tx: 9, Ops: opsOf("b=1 a=1")}, {Kind: impl.RecHold, Tx: 9, Ops: opsOf("a=1 a=2")}, {Kind: impl.RecHold, Tx: 9, Ops: manyOps(9)}, {Kind: impl.RecHold, Tx: 9, Ops: []impl.Op{{}}}, {Kind: impl.RecHold, Tx: 9, Ops: opsOf("-a=1")},
		{Kind: impl.RecDone, Tx: 7, Ops: opsOf("k=1")}, {Kind: impl.RecGone, Tx: 7, Ops: opsOf("k=1")}, {Kind: impl.RecGone, Tx: 9, Ops: a}, {Kind: impl.RecDone, Tx: 7, Ops: []impl.Op{{}}},
		{Kind: impl.RecGone}, {Kind: impl.RecGone, Tx: -1}, {Kind: impl.RecGone, Tx: mostTx + 1}, {Kind: impl.RecDone}, {Kind: 0, Tx: 7}, {Kind: 4, Tx: 7}, {Kind: 4, Tx: 9, Ops: a}, {Kind: 0, Tx: 9, Ops: a}, {Kind: -1, Tx: 9}, {Kind: math.MaxInt, Tx: 9},
	} {
		held := recOf("7 k=1")
		doesNotFit(t, "alone", []impl.Rec{wrong})
		doesNotFit(t, "behind one that is held", []impl.Rec{held, wrong})
		doesNotFit(t, "ahead of others", []impl.Rec{wrong, recOf("5 z=1"), recOf("5+")})
		doesNotFit(t, "among others", []impl.Rec{held, wrong, recOf("7+")})
		doesNotFit(t, "behind others", []impl.Rec{held, recOf("7+"), wrong})
	}
}

// filling gives records that make n pairs, from k0000 on, eight at a time.
func filling(n int) []impl.Rec {
	list := []impl.Rec{}
	for from := 0; from < n; from += 8 {
		r := impl.Rec{Kind: impl.RecHold, Tx: 1000 + from}
		for i := from; i < min(from+8, n); i++ {
			r.Ops = append(r.Ops, impl.Op{Kind: impl.OpPut, Key: fmt.Sprintf("k%04d", i), Val: strconv.Itoa(i)})
		}
		list = append(list, r, impl.Rec{Kind: impl.RecDone, Tx: r.Tx})
	}
	return list
}

func TestHowManyPairsRecordsMake(t *testing.T) {
	for n := range 80 {
		m, held, ok := impl.ReplayRecs(filling(n))
		if ok != (n <= 60) || ok && (len(m) != n || !impl.PairsOk(m)) || !ok && len(m) != 0 || len(held) != 0 {
			t.Errorf("%d pairs: %q %#v %v", n, m, held, ok)
		}
	}
	full := func(text string) []impl.Rec { return append(filling(60), recsOf(text)...) }
	for text, want := range map[string]int{
		"7 k0000=new; 7+": 60, "7 a?; 7+": 60, "7 -a; 7+": 60, "7 a=1": 60, "7 a=1; 7-": 60, "7 a=1 b=2 c=3; 8 d=4; 9-": 60,
		"7 a=1 -k0000; 7+": 60, "7 -k0000 z=1; 7+": 60, "7 a=1 b=1 -k0000 -k0001; 7+": 60, "7 -k0000; 7+; 8 a=1; 8+": 60, "7 -k0000 -k0001; 7+": 58,
		"7 a=1; 7+": -1, "7 a=; 7+": -1, "7 a=1 b=1 -k0000; 7+": -1, "7 -k0000 z=1 zz=2; 7+": -1, "7 a=1; 7+; 8 -a; 8+": -1, "7 a=1; 8 -k0000; 7+; 8+": -1,
	} {
		m, _, ok := impl.ReplayRecs(full(text))
		if ok != (want >= 0) || ok && len(m) != want || !ok && len(m) != 0 {
			t.Errorf("behind MaxPairs %q: %d pairs, %v", text, len(m), ok)
		}
	}
	m, held, ok := impl.ReplayRecs(full("7 a=1; 8 b=1; 8-"))
	want, _, _ := replayByHand(filling(60))
	if !ok || !slices.Equal(m, want) || !sameRecs(held, recsOf("7 a=1")) {
		t.Errorf("MaxPairs and one that is held: %q %#v %v", m, held, ok)
	}
}

func TestReplayGoesByTheWords(t *testing.T) {
	orders := []string{"a=1", "a=2", "-a", "a?", "a?1", "b=1", "-b", "b?1", "b? c=1", "a=1 b=2", "c=3", "-a c=1", "c? d=", "d?", "-d", "a? b? c? d?"}
	from := rand.New(rand.NewSource(9))
	fit, not, left := 0, 0, 0
	for range 60000 {
		list := []impl.Rec{}
		for range 1 + from.Intn(7) {
			r := impl.Rec{Kind: 1 + from.Intn(3), Tx: 1 + from.Intn(4)}
			if r.Kind == impl.RecHold {
				r.Ops = opsOf(orders[from.Intn(len(orders))])
			}
			if from.Intn(40) == 0 {
				r.Tx = 0
			}
			list = append(list, r)
		}
		m, held, ok := replayByHand(list)
		if !ok {
			not++
			doesNotFit(t, "by hand", list)
			continue
		}
		fit++
		left += len(held)
		replays(t, "by hand", list, m, held)
	}
	if fit < 3000 || not < 3000 || left < 3000 {
		t.Errorf("%d fit, %d do not, %d are left", fit, not, left)
	}
}

// What a beginning makes, and the rest behind it, is what the whole makes: nothing is taken from behind.
func TestBeginningsOfRecordsFit(t *testing.T) {
	list := recsOf("9-; 7 a=1 b=2; 8 c?; 7+; 10 a?1 -b; 8-; 11 c=3; 10+; 12 b? d=4; 11+; 12+; 13 a=5")
	for end := range len(list) + 1 {
		m, held, ok := replayByHand(list[:end])
		if !ok {
			t.Fatal("by hand", end)
		}
		replays(t, "a beginning", list[:end], m, held)
	}
	l, at := impl.ReadRecs([]byte(recBytes(list)))
	if at != len(recBytes(list)) {
		t.Error("read up to", at)
	}
	replays(t, "of their bytes", l, pairsOf("a=1 c=3 d=4"), recsOf("13 a=5"))
}

func TestReplayOfManyRecords(t *testing.T) {
	list, held := []impl.Rec{}, []impl.Rec{}
	for i := range 20000 {
		r := impl.Rec{Kind: impl.RecHold, Tx: 1 + i, Ops: []impl.Op{{Kind: impl.OpPut, Key: "k" + strconv.Itoa(i), Val: "1"}}}
		list = append(list, r)
		if i%2 == 0 {
			list = append(list, impl.Rec{Kind: impl.RecGone, Tx: r.Tx})
		} else {
			held = append(held, r)
		}
	}
	replays(t, "many", list, nil, held)
}

// recsWithRoom gives l with spare room behind it and behind each of its Ops, and the whole memory of all.
func recsWithRoom(l []impl.Rec) (given []impl.Rec, whole []impl.Rec) {
	whole = append(copyRecs(l), recsOf("700 r=1; 700+; 701-; 0+")...)
	for i := range whole {
		whole[i].Ops, _ = opsWithRoom(whole[i].Ops)
	}
	return whole[:len(l)], whole
}

// allOps has each Ops with what lies in the room behind it.
func allOps(l []impl.Rec) []impl.Rec {
	out := slices.Clone(l)
	for i := range out {
		out[i].Ops = slices.Clone(out[i].Ops[:cap(out[i].Ops)])
	}
	return out
}

// spoilRecs writes into all memory that an answer has, its room too.
func spoilRecs(l []impl.Rec) {
	for _, r := range l {
		spoilOps(r.Ops)
	}
	for i := range l[:cap(l)] {
		l[:cap(l)][i] = impl.Rec{Kind: 9, Tx: 9, Ops: opsOf("9:other=other")}
	}
}

func spoilOps(l []impl.Op) {
	for i := range l[:cap(l)] {
		l[:cap(l)][i] = impl.Op{Kind: 9, Key: "other", Val: "other"}
	}
}

func TestPutRecLeavesItsArgument(t *testing.T) {
	for _, r := range append(rightRecs(), impl.Rec{Kind: impl.RecDone, Tx: 7, Ops: opsOf("a=1")}, impl.Rec{Kind: impl.RecHold, Tx: 0, Ops: opsOf("a=1")}) {
		given, whole := recsWithRoom([]impl.Rec{r})
		before := allOps(whole)
		first, second := impl.PutRec(given[0]), impl.PutRec(given[0])
		for i := range second[:cap(second)] {
			second[:cap(second)][i] ^= 0xff
		}
		if !sameRecs(allOps(whole), before) || impl.RecOk(given[0]) != impl.RecOk(r) || !bytes.Equal(first, impl.PutRec(r)) {
			t.Errorf("%#v: written into, read behind, or shared", r)
		}
	}
}

func TestReadingRecordsLeavesTheirBytes(t *testing.T) {
	list := append(rightRecs(), recsOf("7 a=1; 8 a=1")...)
	given, whole := withRoom(recBytes(list))
	before := slices.Clone(whole)
	first, end := impl.ReadRecs(given)
	second, _ := impl.ReadRecs(given)
	spoilRecs(second)
	last := list[len(list)-1]
	at := len(recBytes(list[:len(list)-1]))
	one, _, _ := impl.GetRec(given, at)
	other, _, _ := impl.GetRec(given, at)
	spoilOps(other.Ops)
	if !bytes.Equal(whole, before) {
		t.Error("the bytes were written into")
	}
	clear(whole)
	if end != len(given) || !sameRecs(first, list) || !sameRec(one, last) {
		t.Error("the answer hangs on its argument, or on another answer")
	}
	for i := range first {
		spoilOps(first[i].Ops)
		if !sameRecs(first[i+1:], list[i+1:]) {
			t.Errorf("the Ops of record %d share memory with later ones", i)
		}
	}
}

func TestRecordsAreNotReadBehindTheirBytes(t *testing.T) {
	list := recsOf("7 a=1; 7+; 8-")
	whole := []byte(recBytes(list))
	start := 0
	for i, r := range list {
		end := start + len(recBytes(list[i:i+1]))
		for cut := start; cut < end; cut++ {
			if got, next, ok := impl.GetRec(whole[:cut], start); ok || next != start || !isZeroRec(got) {
				t.Errorf("%#v, cut at %d, is read behind that", r, cut)
			}
			if l, at := impl.ReadRecs(whole[:cut]); at != start || !sameRecs(l, list[:i]) {
				t.Errorf("cut at %d: %#v %d", cut, l, at)
			}
		}
		start = end
	}
	if string(whole) != recBytes(list) {
		t.Error("written into")
	}
}

func TestReplayLeavesItsArgument(t *testing.T) {
	for _, text := range []string{"", "7 a=1", "7 a=1; 7+", "7 a=1 b=2; 8 c=3 -d; 9 e?", "7 a=1; 7+; 8 a?1; 9 b=2 c=3", "7 a=1; 7+; 7+", "7+", "7 a=1; 8 b=1; 8 c=1"} {
		given, whole := recsWithRoom(recsOf(text))
		before := allOps(whole)
		m, held, ok := impl.ReplayRecs(given)
		m2, held2, _ := impl.ReplayRecs(given)
		spoilRecs(held2)
		for i := range m2[:cap(m2)] {
			m2[:cap(m2)][i] = impl.Pair{Key: "other", Val: "other"}
		}
		wantPairs, wantHeld, want := replayByHand(recsOf(text))
		if !sameRecs(allOps(whole), before) || ok != want || !slices.Equal(m, wantPairs) || !sameRecs(held, wantHeld) {
			t.Errorf("%q: written into, read behind, or shared", text)
		}
		spoilRecs(whole)
		if !slices.Equal(m, wantPairs) || !sameRecs(held, wantHeld) {
			t.Errorf("%q: the answer hangs on its argument afterwards", text)
		}
		for i := range held {
			spoilOps(held[i].Ops)
			if !sameRecs(held[i+1:], wantHeld[i+1:]) || !slices.Equal(m, wantPairs) {
				t.Errorf("%q: the Ops of %d share memory with the rest", text, i)
			}
		}
	}
}

// Ops that are parts of one list are lists of their own in what is left held.
func TestHeldOrdersOfOneList(t *testing.T) {
	all := opsOf("a=1 b=2 c=3 d=4")
	list := []impl.Rec{{Kind: impl.RecHold, Tx: 7, Ops: all[:2]}, {Kind: impl.RecHold, Tx: 8, Ops: all[2:]}}
	m, held, ok := impl.ReplayRecs(list)
	if !ok || len(m) != 0 || !sameRecs(held, list) {
		t.Fatalf("%q %#v %v", m, held, ok)
	}
	spoilOps(held[0].Ops)
	if !slices.Equal(held[1].Ops, opsOf("c=3 d=4")) || !slices.Equal(all, opsOf("a=1 b=2 c=3 d=4")) {
		t.Errorf("%#v of %#v", held, all)
	}
}
