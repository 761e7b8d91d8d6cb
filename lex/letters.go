package lex

func isBlank(b byte) bool { return b == ' ' || b == '\t' || b == '\n' || b == '\r' }

func isDigit(b byte) bool { return b >= '0' && b <= '9' }

func beginsWord(b byte) bool { return b >= 'A' && b <= 'Z' || b >= 'a' && b <= 'z' || b == '_' }

func goesOnInWord(b byte) bool { return beginsWord(b) || isDigit(b) }

func capital(b byte) byte {
	if b >= 'a' && b <= 'z' {
		return b - 'a' + 'A'
	}
	return b
}

// isWrittenAs goes by bytes: letters outside ASCII that fold to one of a keyword's are none of its letters.
func isWrittenAs(s, keyword string) bool {
	if len(s) != len(keyword) {
		return false
	}
	for i := range len(s) {
		if capital(s[i]) != keyword[i] {
			return false
		}
	}
	return true
}
