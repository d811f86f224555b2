package tests

import (
	"bytes"
	"crypto/sha256"
	"encoding/hex"
	"strings"
	"testing"

	"loop.example/g00244/impl"
)

// knownDigests: texts whose digests are published, those of FIPS 180-4's examples among them.
var knownDigests = []struct{ text, digits string }{
	{"", "e3b0c44298fc1c149afbf4c8996fb92427ae41e4649b934ca495991b7852b855"},
	{"abc", "ba7816bf8f01cfea414140de5dae2223b00361a396177a9cb410ff61f20015ad"},
	{"abcdbcdecdefdefgefghfghighijhijkijkljklmklmnlmnomnopnopq", "248d6a61d20638b8e5c026930c3e6039a33ce45964ff2167f6ecedd419db06c1"},
	{"abcdefghbcdefghicdefghijdefghijkefghijklfghijklmghijklmnhijklmnoijklmnopjklmnopqklmnopqrlmnopqrsmnopqrstnopqrstu", "cf5b16a778af8380036ce59e7b0492370b249b11e8f07a51afac45037afee9d1"},
	{"The quick brown fox jumps over the lazy dog", "d7a8fbb307d7809469ca9abcb0082e4f8d5651e46d3cdb762d02d0bf37c9e592"},
	{strings.Repeat("a", 1000000), "cdc76e5c9914fb9281a1c7e284d73e67f1809a48a497200e046d39ccc7112cd0"},
}

// mixedText gives n bytes, of which all values come by and no two blocks are alike.
func mixedText(n int) string {
	b := make([]byte, n)
	for i := range b {
		b[i] = byte(i*7 + i/64*13 + 200)
	}
	return string(b)
}

func TestPaddedHasItsBytes(t *testing.T) {
	for _, x := range []struct {
		size, noughts int
		count         string
	}{
		{0, 55, "\x00\x00"}, {1, 54, "\x00\x08"}, {3, 52, "\x00\x18"}, {31, 24, "\x00\xf8"}, {32, 23, "\x01\x00"},
		{54, 1, "\x01\xb0"}, {55, 0, "\x01\xb8"}, {56, 63, "\x01\xc0"}, {57, 62, "\x01\xc8"},
		{63, 56, "\x01\xf8"}, {64, 55, "\x02\x00"}, {65, 54, "\x02\x08"},
		{118, 1, "\x03\xb0"}, {119, 0, "\x03\xb8"}, {120, 63, "\x03\xc0"}, {127, 56, "\x03\xf8"}, {128, 55, "\x04\x00"},
	} {
		text := mixedText(x.size)
		want := text + "\x80" + strings.Repeat("\x00", x.noughts) + "\x00\x00\x00\x00\x00\x00" + x.count
		if p := impl.Padded([]byte(text)); string(p) != want {
			t.Errorf("Padded of %d bytes is %x", x.size, p)
		}
	}
	if p := impl.Padded(nil); len(p) != 64 || p[0] != 128 || !bytes.Equal(p[1:], make([]byte, 63)) {
		t.Errorf("Padded of nil is %x", p)
	}
}

func TestPaddedCountsItsBits(t *testing.T) {
	for _, x := range []struct {
		size  int
		count string
	}{
		{8191, "\x00\x00\x00\x00\x00\x00\xff\xf8"}, {8192, "\x00\x00\x00\x00\x00\x01\x00\x00"},
		{2097151, "\x00\x00\x00\x00\x00\xff\xff\xf8"}, {2097152, "\x00\x00\x00\x00\x01\x00\x00\x00"},
		{9000000, "\x00\x00\x00\x00\x04\x4a\xa2\x00"},
	} {
		p := impl.Padded(make([]byte, x.size))
		if string(p[len(p)-8:]) != x.count {
			t.Errorf("the bits of %d bytes are %x", x.size, p[len(p)-8:])
		}
	}
}

func TestPaddedIsWholeBlocks(t *testing.T) {
	for size := range 300 {
		p := impl.Padded([]byte(mixedText(size)))
		if len(p)%64 != 0 || len(p) < size+9 || len(p) >= size+9+64 {
			t.Errorf("Padded of %d bytes has %d", size, len(p))
		}
	}
}

func TestDigestsAreTheKnownOnes(t *testing.T) {
	for _, x := range knownDigests {
		d := impl.Digest([]byte(x.text))
		if got := hex.EncodeToString([]byte(d)); got != x.digits {
			t.Errorf("Digest of %.60q is %s", x.text, got)
		}
	}
	if impl.Digest(nil) != impl.Digest([]byte{}) {
		t.Error("nil and no bytes have two digests")
	}
}

func TestDigestsOfAllSizes(t *testing.T) {
	for size := range 400 {
		text := []byte(mixedText(size))
		if want := sha256.Sum256(text); impl.Digest(text) != string(want[:]) {
			t.Errorf("Digest of %d bytes is %x", size, impl.Digest(text))
		}
	}
	for c := range 256 {
		text := bytes.Repeat([]byte{byte(c)}, 100)
		if want := sha256.Sum256(text); impl.Digest(text) != string(want[:]) {
			t.Errorf("Digest of bytes %d is %x", c, impl.Digest(text))
		}
	}
}

func TestDigestsComeBackOfTheirDigits(t *testing.T) {
	for _, x := range knownDigests {
		d := impl.Digest([]byte(x.text))
		if len(d) != 32 || impl.HexOf(d) != x.digits {
			t.Errorf("HexOf Digest of %.60q is %s", x.text, impl.HexOf(d))
		}
		if back, ok := impl.UnHex(x.digits); back != d || !ok {
			t.Errorf("UnHex(%s) = %x %v", x.digits, back, ok)
		}
	}
	for size := range 200 {
		d := impl.Digest([]byte(mixedText(size)))
		if back, ok := impl.UnHex(impl.HexOf(d)); back != d || !ok {
			t.Errorf("the digest of %d bytes comes back as %x %v", size, back, ok)
		}
	}
}

func TestEachByteIsTwoDigits(t *testing.T) {
	const digits = "0123456789abcdef"
	all, allDigits := "", ""
	for c := range 256 {
		s := string([]byte{byte(c)})
		want := digits[c/16:c/16+1] + digits[c%16:c%16+1]
		if got := impl.HexOf(s); got != want {
			t.Errorf("HexOf of byte %d is %q", c, got)
		}
		if back, ok := impl.UnHex(want); back != s || !ok {
			t.Errorf("UnHex(%q) = %x %v", want, back, ok)
		}
		all, allDigits = all+s, allDigits+want
	}
	if got := impl.HexOf(all); got != allDigits {
		t.Errorf("HexOf of all bytes is %s", got)
	}
	if back, ok := impl.UnHex(allDigits); back != all || !ok {
		t.Errorf("UnHex of all bytes is %x %v", back, ok)
	}
	if got := impl.HexOf(""); got != "" {
		t.Errorf("HexOf of nothing is %q", got)
	}
	if back, ok := impl.UnHex(""); back != "" || !ok {
		t.Errorf("UnHex of nothing is %q %v", back, ok)
	}
}

func TestSignsThatAreNoDigits(t *testing.T) {
	refused := func(s string) {
		if back, ok := impl.UnHex(s); back != "" || ok {
			t.Errorf("UnHex(%q) = %x %v", s, back, ok)
		}
	}
	for c := range 256 {
		sign := string([]byte{byte(c)})
		if strings.Contains("0123456789abcdef", sign) {
			continue
		}
		for _, s := range []string{sign + "0", "0" + sign, sign + sign, "00" + sign + "a", "a" + sign + "00", "12ab" + sign + "f", "12abf" + sign} {
			refused(s)
		}
	}
	for _, s := range []string{"0x", "0x00", "AA", "aA", "Aa", "-1", "+1", " 1", "1 ", "00 ff", "00\n", "\u0661\u0661"} {
		refused(s)
	}
}

func TestOddCountsOfDigits(t *testing.T) {
	digits := impl.HexOf(impl.Digest([]byte("abc")))
	for size := range len(digits) + 1 {
		back, ok := impl.UnHex(digits[:size])
		if ok != (size%2 == 0) || len(back) != size/2 && ok || back != "" && !ok {
			t.Errorf("UnHex of %d digits: %x %v", size, back, ok)
		}
	}
}

func TestDigestsLeaveTheirArguments(t *testing.T) {
	for _, size := range []int{0, 3, 54, 55, 56, 63, 64, 65, 119, 120, 128} {
		text := mixedText(size)
		given, whole := withRoom(text)
		before := bytes.Clone(whole)
		p := impl.Padded(given)
		d := impl.Digest(given)
		if !bytes.Equal(whole, before) {
			t.Errorf("%d bytes were written into: %x", size, whole)
		}
		if !bytes.Equal(p, impl.Padded([]byte(text))) || d != impl.Digest([]byte(text)) {
			t.Errorf("%d bytes: what lies behind them is read", size)
		}
		want := bytes.Clone(p)
		again := impl.Padded(given)
		for i := range again {
			again[i] ^= 0xff
		}
		if !bytes.Equal(whole, before) || !bytes.Equal(p, want) {
			t.Errorf("%d bytes: the answer shares memory", size)
		}
		clear(whole)
		if !bytes.Equal(p, want) || d != impl.Digest([]byte(text)) {
			t.Errorf("%d bytes: the answer hangs on its argument afterwards", size)
		}
	}
}
