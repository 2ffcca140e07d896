package shop

import (
	"strings"

	"corsage/api"
)

// The bounds of lines and their words.
const (
	maxLine   = 60
	maxName   = 8
	maxDigits = 4
)

// form is that of the words of a line behind the first one: so many names, and then at least and at most so many numbers.
type form struct{ names, least, most int }

// words are those of a line behind the first one.
type words struct {
	names   []string
	numbers []int
}

// firstWord returns the first word of a line.
func firstWord(line string) string {
	word, _, _ := strings.Cut(line, " ")
	return word
}

// read returns the words of a line behind the first one, or ErrForm if they have another form.
func (f form) read(line string) (w words, e api.Errno) {
	defer func() {
		if r := recover(); r != nil {
			w, e = words{}, r.(api.Errno)
		}
	}()
	return f.fit(line), api.OK
}

// fit returns the words of a line behind the first one, or panics with ErrForm.
// Which bytes a line has, and where its blanks are, need not be asked: no other word, and no empty one, is a name or a number.
func (f form) fit(line string) words {
	if len(line) > maxLine {
		panic(api.ErrForm)
	}
	all := strings.Split(line, " ")[1:]
	if n := len(all) - f.names; n < f.least || n > f.most {
		panic(api.ErrForm)
	}
	var w words
	for _, word := range all[:f.names] {
		w.names = append(w.names, nameOf(word))
	}
	for _, word := range all[f.names:] {
		w.numbers = append(w.numbers, numberOf(word))
	}
	return w
}

// nameOf returns a word that is a name, or panics with ErrForm.
func nameOf(word string) string {
	if len(word) < 1 || len(word) > maxName {
		panic(api.ErrForm)
	}
	for _, letter := range word {
		if letter < 'a' || letter > 'z' {
			panic(api.ErrForm)
		}
	}
	return word
}

// numberOf returns the number that a word is, or panics with ErrForm.
func numberOf(word string) int {
	if len(word) < 1 || len(word) > maxDigits || len(word) > 1 && word[0] == '0' {
		panic(api.ErrForm)
	}
	n := 0
	for _, digit := range word {
		if digit < '0' || digit > '9' {
			panic(api.ErrForm)
		}
		n = 10*n + int(digit-'0')
	}
	return n
}
