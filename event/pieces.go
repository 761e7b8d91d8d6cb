package event

// pieceKind: what a piece of a schema text is.
type pieceKind int

const (
	pieceWord pieceKind = iota
	pieceMark
	pieceEnd
)

// piece: a word, a mark or the end of a schema text. A character that can stand nowhere is a mark too: nobody asks for it.
type piece struct {
	kind pieceKind
	word string
	mark rune
	at   int
}

func (p piece) isWord(word string) bool { return p.kind == pieceWord && p.word == word }

func (p piece) isMark(mark rune) bool { return p.kind == pieceMark && p.mark == mark }

// mayBeName: a word that begins with a digit is wrong as a word already, not as a name.
func (p piece) mayBeName() bool { return p.kind == pieceWord && !isDigit(rune(p.word[0])) }

// piecesOf: what stands in a schema text, without blanks and comments; the end stands last.
func piecesOf(text string) []piece {
	var out []piece
	begin := -1
	inComment := false
	for at, r := range text {
		if begin >= 0 && !inWord(r) {
			out = append(out, wordPiece(text[begin:at], begin))
			begin = -1
		}
		switch {
		case inComment:
			inComment = r != '\n'
		case r == '#':
			inComment = true
		case inWord(r):
			if begin < 0 {
				begin = at
			}
		case !isBlank(r):
			out = append(out, piece{kind: pieceMark, mark: r, at: at})
		}
	}
	if begin >= 0 {
		out = append(out, wordPiece(text[begin:], begin))
	}
	return append(out, piece{kind: pieceEnd, at: len(text)})
}

func wordPiece(word string, at int) piece { return piece{kind: pieceWord, word: word, at: at} }
