package casing

import (
	"strings"

	"remould/api"
)

// letterNames has the letters in the order in which numbering takes them: the inverse of the letter at an even place stands right after it.
const letterNames = "aAbB"

func isLetters(letters int) bool { return letters == 1 || letters == 2 }

func isSheets(d int) bool { return 1 <= d && d <= api.MaxSheets }

func isWord(letters int, word string) bool {
	if len(word) > api.MaxWord {
		return false
	}
	for i := range len(word) {
		if strings.IndexByte(letterNames[:2*letters], word[i]) < 0 {
			return false
		}
	}
	return true
}

func isGroup(group api.Group) bool {
	if !isLetters(group.Letters) || len(group.Rules) > api.MaxRules {
		return false
	}
	for _, rule := range group.Rules {
		if !isWord(group.Letters, rule) {
			return false
		}
	}
	return true
}

// opposite relies on ASCII: a letter and its capital differ in one bit.
func opposite(letter byte) byte { return letter ^ ('a' ^ 'A') }

func inverse(word string) string {
	turned := make([]byte, 0, len(word))
	for i := len(word) - 1; i >= 0; i-- {
		turned = append(turned, opposite(word[i]))
	}
	return string(turned)
}

// reduced returns the parts, one after the other, as one reduced word.
func reduced(parts ...string) string {
	var kept []byte
	for _, part := range parts {
		for i := range len(part) {
			last := len(kept) - 1
			if last >= 0 && kept[last] == opposite(part[i]) {
				kept = kept[:last]
			} else {
				kept = append(kept, part[i])
			}
		}
	}
	return string(kept)
}
