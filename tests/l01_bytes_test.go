package tests

import (
	"bytes"
	"hash/fnv"
	"math"
	"slices"
	"strconv"
	"strings"
	"testing"

	"loop.example/g00244/impl"
)

// numForms: the least and the greatest number of each count of groups, and what the chapter names.
var numForms = []struct {
	n    int
	form string
}{
	{0, "\x00"}, {1, "\x01"}, {127, "\x7f"},
	{128, "\x80\x01"}, {129, "\x81\x01"}, {300, "\xac\x02"}, {16383, "\xff\x7f"},
	{16384, "\x80\x80\x01"}, {2097151, "\xff\xff\x7f"},
	{2097152, "\x80\x80\x80\x01"}, {268435455, "\xff\xff\xff\x7f"},
	{268435456, "\x80\x80\x80\x80\x01"}, {impl.MaxNum, "\x80\x94\xeb\xdc\x03"},
}

// withRoom gives s as bytes with spare room behind them, and the whole memory, so that a write into either is seen.
func withRoom(s string) (given []byte, whole []byte) {
	whole = append([]byte(s), bytes.Repeat([]byte{0xee}, 64)...)
	return whole[:len(s)], whole
}

// listOf gives n texts, of which each third is empty.
func listOf(n int) []string {
	list := make([]string, n)
	for i := range list {
		list[i] = strings.Repeat(strconv.Itoa(i), i%3)
	}
	return list
}

func TestNumbersHaveTheirBytes(t *testing.T) {
	for _, x := range numForms {
		for _, ahead := range []string{"", "\x80", "ab"} {
			b := impl.PutNum([]byte(ahead), x.n)
			if string(b) != ahead+x.form {
				t.Errorf("PutNum(%q, %d) = %x", ahead, x.n, b)
			}
			b = append(b, "\x01behind"...)
			want := len(ahead) + len(x.form)
			if n, next, ok := impl.GetNum(b, len(ahead)); n != x.n || next != want || !ok {
				t.Errorf("GetNum(%x, %d) = %d %d %v", b, len(ahead), n, next, ok)
			}
		}
	}
}

func TestNumbersAreBroughtNearer(t *testing.T) {
	for n, near := range map[int]int{
		-1: 0, -128: 0, math.MinInt: 0,
		impl.MaxNum + 1: impl.MaxNum, 1 << 32: impl.MaxNum, math.MaxInt: impl.MaxNum,
	} {
		if b := impl.PutNum(nil, n); !bytes.Equal(b, impl.PutNum(nil, near)) {
			t.Errorf("PutNum of %d is %x", n, b)
		}
	}
}

func TestNumbersComeBack(t *testing.T) {
	b := []byte{}
	list := []int{}
	for n := 0; n <= impl.MaxNum; n += 1 + n/50 {
		list = append(list, n)
		b = impl.PutNum(b, n)
	}
	at := 0
	for _, want := range list {
		n, next, ok := impl.GetNum(b, at)
		if n != want || !ok {
			t.Fatalf("at %d: %d %v, not %d", at, n, ok, want)
		}
		at = next
	}
	if at != len(b) {
		t.Error("left over", at, len(b))
	}
}

func TestBytesThatAreNoNumber(t *testing.T) {
	for _, s := range []string{
		"", "\x80", "\xff", "\x80\x80", "\x80\x80\x80\x80", "\xff\xff\xff\xff\xff",
		"\x80\x00", "\xff\x00", "\x80\x80\x00", "\x81\x80\x80\x80\x00",
		"\x81\x94\xeb\xdc\x03", "\x80\x94\xeb\xdc\x04", "\xff\xff\xff\xff\x0f", "\xff\xff\xff\xff\x7f",
		"\x80\x80\x80\x80\x80\x00", "\x80\x80\x80\x80\x80\x01",
		"\x80\x80\x80\x80\x80\x80\x80\x80\x80\x01", "\x81\x80\x80\x80\x80\x80\x80\x80\x80\x80\x01",
		strings.Repeat("\x80", 40) + "\x01",
	} {
		for _, ahead := range []string{"", "\x01"} {
			if n, next, ok := impl.GetNum([]byte(ahead+s), len(ahead)); n != 0 || next != 0 || ok {
				t.Errorf("GetNum of %x behind %d bytes: %d %d %v", s, len(ahead), n, next, ok)
			}
		}
	}
	for _, x := range numForms {
		for cut := range len(x.form) {
			given, _ := withRoom(x.form)
			if n, next, ok := impl.GetNum(given[:cut], 0); n != 0 || next != 0 || ok {
				t.Errorf("%d cut at %d: %d %d %v", x.n, cut, n, next, ok)
			}
		}
	}
}

func TestPlacesThatAreNone(t *testing.T) {
	b, _ := withRoom("\x01\x01a")
	for _, at := range []int{-1, -3, math.MinInt, 3, 4, 66, 67, 1000, math.MaxInt} {
		if n, next, ok := impl.GetNum(b, at); n != 0 || next != 0 || ok {
			t.Errorf("GetNum at %d: %d %d %v", at, n, next, ok)
		}
		if s, next, ok := impl.GetText(b, at); s != "" || next != 0 || ok {
			t.Errorf("GetText at %d: %q %d %v", at, s, next, ok)
		}
		if l, next, ok := impl.GetTexts(b, at); len(l) != 0 || next != 0 || ok {
			t.Errorf("GetTexts at %d: %q %d %v", at, l, next, ok)
		}
	}
}

func TestTextsHaveTheirBytes(t *testing.T) {
	for s, form := range map[string]string{
		"": "\x00", "a": "\x01a", "\x00": "\x01\x00", "\xff\x80": "\x02\xff\x80", "\u00e9": "\x02\xc3\xa9",
		strings.Repeat("x", 127): "\x7f" + strings.Repeat("x", 127),
		strings.Repeat("y", 128): "\x80\x01" + strings.Repeat("y", 128),
		strings.Repeat("z", 300): "\xac\x02" + strings.Repeat("z", 300),
	} {
		b := impl.PutText([]byte("ab"), s)
		if string(b) != "ab"+form {
			t.Errorf("PutText of %q is %x", s, b)
		}
		b = append(b, "cd"...)
		if back, next, ok := impl.GetText(b, 2); back != s || next != 2+len(form) || !ok {
			t.Errorf("GetText of %q: %q %d %v", s, back, next, ok)
		}
		for cut := range len(form) {
			given, _ := withRoom(form)
			if back, next, ok := impl.GetText(given[:cut], 0); back != "" || next != 0 || ok {
				t.Errorf("%q cut at %d: %q %d %v", s, cut, back, next, ok)
			}
		}
	}
}

func TestBytesThatAreNoText(t *testing.T) {
	for _, s := range []string{"\x01", "\x02a", "\x80", "\x80\x00", "\x81\x00a", "\x80\x94\xeb\xdc\x03abc", "\xff\xff\xff\xff\x0fabc"} {
		if back, next, ok := impl.GetText([]byte(s), 0); back != "" || next != 0 || ok {
			t.Errorf("GetText of %x: %q %d %v", s, back, next, ok)
		}
	}
}

func TestListsHaveTheirBytes(t *testing.T) {
	for _, x := range []struct {
		list []string
		form string
	}{
		{nil, "\x00"}, {[]string{}, "\x00"}, {[]string{""}, "\x01\x00"}, {[]string{"", ""}, "\x02\x00\x00"},
		{[]string{"a", "", "bc"}, "\x03\x01a\x00\x02bc"}, {[]string{"\x01", "\x80"}, "\x02\x01\x01\x01\x80"},
	} {
		if b := impl.PutTexts([]byte("z"), x.list); string(b) != "z"+x.form {
			t.Errorf("PutTexts of %q is %x", x.list, b)
		}
	}
	b := impl.PutTexts(nil, make([]string, 201))
	if string(b) != "\xc9\x01"+strings.Repeat("\x00", 201) {
		t.Errorf("PutTexts of 201 is %x", b)
	}
}

func TestListsComeBack(t *testing.T) {
	for _, n := range []int{0, 1, 2, 3, 50, 127, 128, 199, 200} {
		list := listOf(n)
		b := impl.PutTexts([]byte("ab"), list)
		end := len(b)
		b = append(b, "\x01c"...)
		if back, next, ok := impl.GetTexts(b, 2); !slices.Equal(back, list) || next != end || !ok {
			t.Errorf("%d texts: %q %d %v", n, back, next, ok)
		}
	}
	list := []string{strings.Repeat("x", 5000), "", strings.Repeat("y", 128)}
	if back, _, ok := impl.GetTexts(impl.PutTexts(nil, list), 0); !slices.Equal(back, list) || !ok {
		t.Error("long texts do not come back")
	}
}

func TestListsThatAreNone(t *testing.T) {
	for _, n := range []int{201, 202, 1000} {
		if back, next, ok := impl.GetTexts(impl.PutTexts(nil, listOf(n)), 0); len(back) != 0 || next != 0 || ok {
			t.Errorf("%d texts: %d %d %v", n, len(back), next, ok)
		}
	}
	for _, n := range []int{1, 3, 7, 200} {
		form := string(impl.PutTexts(nil, listOf(n)))
		for cut := range len(form) {
			given, _ := withRoom(form)
			if back, next, ok := impl.GetTexts(given[:cut], 0); len(back) != 0 || next != 0 || ok {
				t.Errorf("%d texts cut at %d: %q %d %v", n, cut, back, next, ok)
			}
		}
	}
	for _, s := range []string{"\x80\x94\xeb\xdc\x03", "\x80\x00", "\x02\x01a\x80\x00", "\x02\x01a\x02b"} {
		if back, next, ok := impl.GetTexts([]byte(s), 0); len(back) != 0 || next != 0 || ok {
			t.Errorf("GetTexts of %x: %q %d %v", s, back, next, ok)
		}
	}
}

func TestPuttingLeavesItsArguments(t *testing.T) {
	for name, put := range map[string]func([]byte) []byte{
		"PutNum":        func(b []byte) []byte { return impl.PutNum(b, 300) },
		"PutText":       func(b []byte) []byte { return impl.PutText(b, "xyz") },
		"PutTexts":      func(b []byte) []byte { return impl.PutTexts(b, []string{"x", "", "yz"}) },
		"PutText empty": func(b []byte) []byte { return impl.PutText(b, "") },
		"PutTexts none": func(b []byte) []byte { return impl.PutTexts(b, nil) },
	} {
		for _, s := range []string{"", "abc"} {
			given, whole := withRoom(s)
			before := bytes.Clone(whole)
			first := put(given)
			want := bytes.Clone(first)
			second := put(given)
			if !bytes.Equal(whole, before) {
				t.Errorf("%s wrote into its argument %q: %x", name, s, whole)
			}
			for i := range second {
				second[i] ^= 0xff
			}
			if !bytes.Equal(whole, before) || !bytes.Equal(first, want) {
				t.Errorf("%s of %q: the answer shares memory", name, s)
			}
		}
	}
}

func TestPuttingLeavesItsList(t *testing.T) {
	whole := []string{"a", "b", "spare", "room"}
	impl.PutTexts(nil, whole[:2])
	if !slices.Equal(whole, []string{"a", "b", "spare", "room"}) {
		t.Errorf("PutTexts wrote into its list: %q", whole)
	}
	if b := impl.PutTexts(nil, whole[:2]); string(b) != "\x02\x01a\x01b" {
		t.Errorf("PutTexts read behind its list: %x", b)
	}
}

func TestGettingLeavesItsArguments(t *testing.T) {
	given, whole := withRoom("\x02\x01a\x02bc")
	before := bytes.Clone(whole)
	for at := -1; at <= len(given)+1; at++ {
		impl.GetNum(given, at)
		impl.GetText(given, at)
		impl.GetTexts(given, at)
	}
	if !bytes.Equal(whole, before) {
		t.Errorf("written into: %x", whole)
	}
	s, _, _ := impl.GetText(given, 1)
	list, _, _ := impl.GetTexts(given, 0)
	clear(whole)
	if s != "a" || !slices.Equal(list, []string{"a", "bc"}) {
		t.Errorf("the answer shares memory: %q %q", s, list)
	}
}

func TestHash(t *testing.T) {
	for s, want := range map[string]int{"": 0x811c9dc5, "a": 0xe40c292c, "b": 0xe70c2de5, "foobar": 0xbf9cf968} {
		if h := impl.Hash(s); h != want {
			t.Errorf("Hash(%q) = %x", s, h)
		}
	}
	for _, s := range []string{"\x00", "\x00\x00", "\xff", "\xc3\xa9", "\xc3", strings.Repeat("ledger", 1000)} {
		h := fnv.New32a()
		h.Write([]byte(s))
		if got := impl.Hash(s); got != int(h.Sum32()) {
			t.Errorf("Hash(%q) = %x", s, got)
		}
	}
}
