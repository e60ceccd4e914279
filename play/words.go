package play

import (
	"strconv"
	"strings"
)

const digits = "0123456789ABCDEF"

// writeWords writes numbers, then texts, a blank ahead of each.
func writeWords(to *strings.Builder, numbers []int, texts []string) {
	for _, n := range numbers {
		to.WriteByte(' ')
		to.WriteString(strconv.Itoa(n))
	}
	for _, t := range texts {
		to.WriteByte(' ')
		to.WriteString(wordOf(t))
	}
}

// wordOf writes a text as one word.
func wordOf(text string) string {
	if text == "" {
		return "%"
	}
	var word strings.Builder
	for i := range len(text) {
		c := text[i]
		if stands(c) {
			word.WriteByte(c)
			continue
		}
		word.WriteByte('%')
		word.WriteByte(digits[c>>4])
		word.WriteByte(digits[c&15])
	}
	return word.String()
}

// stands: this byte is written as it is.
func stands(c byte) bool { return c > 0x20 && c < 0x7f && c != '%' }

// textOf reads the text that is written so, if there is one.
func textOf(word string) (string, bool) {
	if word == "%" {
		return "", true
	}
	text := make([]byte, 0, len(word))
	for rest := word; rest != ""; {
		c := rest[0]
		rest = rest[1:]
		if c == '%' {
			if len(rest) < 2 {
				return "", false
			}
			high, low := strings.IndexByte(digits, rest[0]), strings.IndexByte(digits, rest[1])
			if high < 0 || low < 0 {
				return "", false
			}
			c, rest = byte(high<<4|low), rest[2:]
		}
		text = append(text, c)
	}
	// There is one way to write each text: what is written otherwise is none.
	if wordOf(string(text)) != word {
		return "", false
	}
	return string(text), true
}

// numberOf reads a number, if it is one, written in the one way there is.
func numberOf(text string) (int, bool) {
	n, e := strconv.Atoi(text)
	if e != nil || strconv.Itoa(n) != text {
		return 0, false
	}
	return n, true
}
