package cleave

import (
	"strconv"
	"unicode/utf8"
)

// What a byte may be in a word; a byte may be several of these.
const (
	upperByte uint8 = 1 << iota
	lowerByte
	digitByte
	hexByte
)

// wordBytes tells of each byte what it may be in a word: 0 if words do not
// have it. Bytes from 128 on are left out, as no word has one.
var wordBytes [128]uint8

func init() {
	for b := 'A'; b <= 'Z'; b++ {
		wordBytes[b] = upperByte
	}
	for b := 'a'; b <= 'z'; b++ {
		wordBytes[b] = lowerByte
	}
	for b := '0'; b <= '9'; b++ {
		wordBytes[b] = digitByte | hexByte
	}
	for b := 'a'; b <= 'f'; b++ {
		wordBytes[b] |= hexByte
	}
}

// byteKinds tells what a byte may be in a word.
func byteKinds(b byte) uint8 {
	if int(b) >= len(wordBytes) {
		return 0
	}
	return wordBytes[b]
}

// countOf tells how many bytes at the beginning of a text are of the kinds.
func countOf(text string, kinds uint8) int {
	n := 0
	for n < len(text) && byteKinds(text[n])&kinds != 0 {
		n++
	}
	return n
}

// wordLength tells how many bytes the word at the beginning of a text has.
func wordLength(text string) int {
	return countOf(text, upperByte|lowerByte|digitByte)
}

// isName tells whether a word, which is not empty, is a name.
func isName(word string) bool {
	if len(word) > maxName || byteKinds(word[0]) != upperByte {
		return false
	}
	rest := word[1:]
	return countOf(rest, lowerByte|digitByte) == len(rest)
}

// runeOfWord tells which rune a word such as 0x61 is, and whether it is one.
// It may be one that no text has, as that is another error than a wrong word.
func runeOfWord(word string) (rune, bool) {
	if len(word) < 3 || len(word) > 8 || word[:2] != "0x" {
		return 0, false
	}
	digits := word[2:]
	// ParseUint would take digits from A to F too.
	if countOf(digits, hexByte) != len(digits) {
		return 0, false
	}
	value, err := strconv.ParseUint(digits, 16, 32)
	return rune(value), err == nil
}

// mayBe tells whether a class may have a rune that must not be below the
// lowest.
func mayBe(r, lowest rune) bool {
	return r >= lowest && utf8.ValidRune(r)
}
