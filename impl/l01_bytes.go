package impl

const MaxNum = 1000000000

const (
	maxTexts  = 200
	maxGroups = 5 // MaxNum has 30 bits; whatever has a sixth group is above it, or ends on a needless 0
	groupSize = 128
	hashStart = 2166136261
	hashStep  = 16777619
)

func PutNum(b []byte, n int) []byte {
	return addNum(ownBytes(b), n)
}

func GetNum(b []byte, at int) (int, int, bool) {
	if at < 0 {
		return 0, 0, false
	}
	n, scale := 0, 1
	for i := at; i < len(b) && i-at < maxGroups; i++ {
		group := int(b[i] % groupSize)
		n += group * scale
		if b[i] >= groupSize {
			scale *= groupSize
			continue
		}
		if n > MaxNum || group == 0 && i > at {
			return 0, 0, false
		}
		return n, i + 1, true
	}
	return 0, 0, false
}

func PutText(b []byte, s string) []byte {
	return addTexts(ownBytes(b), s)
}

func GetText(b []byte, at int) (string, int, bool) {
	size, from, ok := GetNum(b, at)
	if !ok || size > len(b)-from {
		return "", 0, false
	}
	return string(b[from : from+size]), from + size, true
}

func PutTexts(b []byte, l []string) []byte {
	return addTexts(PutNum(b, len(l)), l...)
}

func GetTexts(b []byte, at int) ([]string, int, bool) {
	count, place, ok := GetNum(b, at)
	if !ok || count > maxTexts {
		return []string{}, 0, false
	}
	list := []string{}
	for range count {
		s, next, ok := GetText(b, place)
		if !ok {
			return []string{}, 0, false
		}
		list = append(list, s)
		place = next
	}
	return list, place, true
}

func Hash(s string) int {
	h := uint32(hashStart)
	for _, c := range []byte(s) {
		h ^= uint32(c)
		h *= hashStep
	}
	return int(h)
}

// ownBytes is asked ahead of every append, so that none reaches the spare room behind an argument.
func ownBytes(b []byte) []byte {
	own := make([]byte, len(b))
	copy(own, b)
	return own
}

// addNum appends to out itself: out must be the caller's own.
func addNum(out []byte, n int) []byte {
	n = min(max(n, 0), MaxNum)
	for n >= groupSize {
		out = append(out, byte(groupSize+n%groupSize))
		n /= groupSize
	}
	return append(out, byte(n))
}

// addTexts appends to out itself: out must be the caller's own.
func addTexts(out []byte, texts ...string) []byte {
	for _, s := range texts {
		out = append(addNum(out, len(s)), s...)
	}
	return out
}
