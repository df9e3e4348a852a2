package impl

const maxName = 8
const maxPage = 12

// NameOk asks whether s is a name. Its labels are the two states that one
// stands in between bytes.
func NameOk(s string) bool {
	i := 0
	if len(s) > maxName {
		return false
	}

	// At the front or behind a -: an end here would be an empty name or one
	// that ends in -, and a - here would be at the front or the second of two.
wantsLetter:
	if i == len(s) || !isSmall(s[i]) {
		return false
	}
	i++

behindLetter:
	if i == len(s) {
		return true
	}
	i++
	if s[i-1] == '-' {
		goto wantsLetter
	}
	if isSmall(s[i-1]) {
		goto behindLetter
	}
	return false
}

// PageOk asks whether s is a page.
func PageOk(s string) bool {
	i := 0
	if len(s) > maxPage {
		return false
	}

wantsByte:
	if i == len(s) {
		return true
	}
	if !isSmall(s[i]) && !isDigit(s[i]) {
		return false
	}
	i++
	goto wantsByte
}

// Plain is s in small letters, with - for _.
func Plain(s string) string {
	// Byte by byte, not by runes: a byte that is no letter stays, whether or
	// not the text is right UTF-8.
	out := []byte(s)
	for i, c := range out {
		out[i] = plainByte(c)
	}
	return string(out)
}

// SameName asks whether a and b are one name, however they are written.
func SameName(a string, b string) bool {
	plain := Plain(a)
	return NameOk(plain) && plain == Plain(b)
}

func plainByte(c byte) byte {
	switch {
	case 'A' <= c && c <= 'Z':
		return c - 'A' + 'a'
	case c == '_':
		return '-'
	}
	return c
}

func isSmall(c byte) bool { return 'a' <= c && c <= 'z' }

func isDigit(c byte) bool { return '0' <= c && c <= '9' }
