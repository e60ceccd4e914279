package front

import (
	"slices"
	"strconv"
	"strings"

	"kindred/api"
)

// digits are those of a code, by their values.
const digits = "0123456789abcdef"

// part is a number or a code of an answer, as it is written.
type part struct {
	word     string
	isNumber bool
}

func number(n int) part { return part{word: strconv.Itoa(n), isNumber: true} }

func code(c string) part {
	word := make([]byte, 0, 2*len(c))
	for i := range len(c) {
		word = append(word, digits[c[i]>>4], digits[c[i]&15])
	}
	return part{word: string(word)}
}

// answer puts an answer together: the numbers stand ahead of the codes, however they come. With a refusal there are none.
func answer(refusal api.Errno, parts ...part) string {
	if refusal != api.OK {
		parts = nil
	}
	var numbers, codes []string
	for _, p := range parts {
		if p.isNumber {
			numbers = append(numbers, p.word)
		} else {
			codes = append(codes, p.word)
		}
	}
	head := []string{strconv.Itoa(int(refusal)), strconv.Itoa(len(numbers))}
	return strings.Join(slices.Concat(head, numbers, codes), " ")
}

// answerHits is the answer of a search.
func answerHits(refusal api.Errno, hits []api.Hit) string {
	if len(hits) > api.MaxHits {
		return answer(api.ErrMany)
	}
	var parts []part
	for _, h := range hits {
		parts = append(parts, number(h.Dist), number(h.ID), code(h.Code))
	}
	return answer(refusal, parts...)
}

// numberIn is the number that a word writes. A number is written in one way: what would be written otherwise is none.
func numberIn(word string) (int, bool) {
	n, err := strconv.Atoi(word)
	if err != nil || strconv.Itoa(n) != word {
		return 0, false
	}
	return n, true
}

// codeIn is the code that a word writes.
func codeIn(word string) (string, bool) {
	if word == "" || len(word)%2 != 0 {
		return "", false
	}
	c := make([]byte, 0, len(word)/2)
	for i := 0; i < len(word); i += 2 {
		high, low := strings.IndexByte(digits, word[i]), strings.IndexByte(digits, word[i+1])
		if high < 0 || low < 0 {
			return "", false
		}
		c = append(c, byte(high<<4|low))
	}
	return string(c), true
}
