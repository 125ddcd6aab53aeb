package radix

import (
	"slices"
	"strings"

	"turnpike/api"
	"turnpike/target"
)

const (
	small  = "abcdefghijklmnopqrstuvwxyz"
	great  = "ABCDEFGHIJKLMNOPQRSTUVWXYZ"
	digits = "0123456789"

	letters   = small + great
	nameSigns = letters + digits + "_"
	hexDigits = digits + "abcdefABCDEF"
)

// read tells how many bytes of a text are the beginning of a pattern, and whether they are all, and a pattern.
func read(s string) (int, bool) {
	if !strings.HasPrefix(s, slash) {
		return 0, false
	}
	var names []string
	for at := len(slash); ; at += len(slash) {
		piece := segment(s[at:])
		n, whole := readPiece(piece)
		at += n
		if n < len(piece) {
			return at, false
		}
		kind := kindOf(piece)
		if kind != static {
			whole = whole && !slices.Contains(names, piece[1:])
			names = append(names, piece[1:])
		}
		if at == len(s) {
			return at, whole
		}
		// A name may still go on where the text ends, and a triple, but not where a slash follows; behind a rest there is no piece.
		if !whole || kind == rest {
			return at, false
		}
	}
}

// readPiece tells how many bytes are the beginning of a piece, and whether they are all, and a piece.
func readPiece(piece string) (int, bool) {
	if kindOf(piece) == static {
		return readSigns(piece)
	}
	return readName(piece)
}

// readName reads the sign of a parameter or rest and the name behind it.
func readName(piece string) (int, bool) {
	name := piece[1:]
	if name == "" || !strings.Contains(letters, name[:1]) {
		return 1, false
	}
	end := strings.TrimLeft(name, nameSigns)
	return len(piece) - len(end), end == ""
}

// readSigns reads signs of paths.
func readSigns(piece string) (int, bool) {
	// To target a ? would be the end of a path, and its faults those of a query.
	row, _, asked := strings.Cut(piece, "?")
	_, at, err := target.Parse("GET", slash+row)
	n := at - len(slash)
	switch err {
	case api.OK:
		return len(row), !asked
	case api.ErrPercent:
		return n + readTriple(row[n:]), false
	}
	return n, false
}

// readTriple tells how many bytes are the beginning of a percent triple that is known to be none: its % and one digit at most.
func readTriple(s string) int {
	if len(s) > 1 && strings.Contains(hexDigits, s[1:2]) {
		return 2
	}
	return 1
}
