package sample

// EachOf goes through all texts of so many bytes out of some.
func EachOf(n int, some string, f func(string)) {
	b := make([]byte, n)
	var fill func(int)
	fill = func(i int) {
		if i == n {
			f(string(b))
			return
		}
		for _, x := range []byte(some) {
			b[i] = x
			fill(i + 1)
		}
	}
	fill(0)
}

// Every is each of the 256 bytes, once.
func Every() string {
	var b []byte
	for x := range 256 {
		b = append(b, byte(x))
	}
	return string(b)
}

// Changed calls f of a text of which one byte is gone, is another one, is one more, is doubled, or changed with the next one.
func Changed(s string, others string, f func(string)) {
	for i := range len(s) + 1 {
		for x := range len(others) {
			f(s[:i] + others[x:x+1] + s[i:])
			if i < len(s) {
				f(s[:i] + others[x:x+1] + s[i+1:])
			}
		}
		if i < len(s) {
			f(s[:i] + s[i+1:])
			f(s[:i] + s[i:i+1] + s[i:])
		}
		if i+1 < len(s) {
			f(s[:i] + s[i+1:i+2] + s[i:i+1] + s[i+2:])
		}
	}
}

// Moved calls f of the parts of a text, and of the text with a part taken out, put in once more, or put in elsewhere.
func Moved(s string, f func(string)) {
	for i := range len(s) + 1 {
		for j := i; j <= len(s); j++ {
			rest, part := s[:i]+s[j:], s[i:j]
			f(rest)
			f(part)
			f(s[:j] + part + s[j:])
			f(part + rest)
			f(rest + part)
		}
	}
}
