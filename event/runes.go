package event

func isLetter(r rune) bool { return r >= 'A' && r <= 'Z' || r >= 'a' && r <= 'z' }

func isDigit(r rune) bool { return r >= '0' && r <= '9' }

func inWord(r rune) bool { return isLetter(r) || isDigit(r) || r == '_' }

// isBlank: does it part the words of a schema text?
func isBlank(r rune) bool { return r == ' ' || r == '\t' || r == '\n' || r == '\r' }

// isGap: does it part the words of an event line? A line's end is none here: it would be a part of a word.
func isGap(r rune) bool { return r == ' ' || r == '\t' }
