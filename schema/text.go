package schema

import (
	"graphdb/api"
	"strconv"
	"strings"
)

// anyLabel is written in the place of an empty label. It is no name, so it stands for nothing else.
const anyLabel = "*"

// Text returns the text of r, or the empty string if Check rejects r.
func Text(r api.Rule) string {
	if Check(r) != api.OK {
		return ""
	}
	s, _ := shapeOf(r.Kind)
	words := []string{s.words, r.Name}
	if s.usesKey {
		words = append(words, r.Key)
	}
	if s.usesEnds {
		words = append(words, endWord(r.From), endWord(r.To))
	}
	if s.usesKind {
		words = append(words, kindWord(r.N))
	}
	if s.usesCount {
		words = append(words, strconv.Itoa(r.N))
	}
	return strings.Join(words, " ")
}

// Parse returns the rule whose Text is s, or ErrSyntax if there is none.
func Parse(s string) (api.Rule, api.Errno) {
	for kind := api.RUnique; kind <= api.RMaxOut; kind++ {
		// read takes more than texts, such as leading zeros and words too many, so what it found is written again.
		if r, ok := read(kind, s); ok && Text(r) == s {
			return r, api.OK
		}
	}
	return api.Rule{}, api.ErrSyntax
}

// read returns the only rule of that kind that text can be the text of. It returns false if text does not begin as a text of that kind.
func read(kind int, text string) (api.Rule, bool) {
	s, _ := shapeOf(kind)
	rest, ok := strings.CutPrefix(text, s.words+" ")
	if !ok {
		return api.Rule{}, false
	}
	next := func() string {
		var word string
		word, rest, _ = strings.Cut(rest, " ")
		return word
	}
	r := api.Rule{Kind: kind, Name: next()}
	if s.usesKey {
		r.Key = next()
	}
	if s.usesEnds {
		r.From, r.To = endOf(next()), endOf(next())
	}
	if s.usesKind {
		r.N = kindOf(next())
	}
	if s.usesCount {
		// What is no number becomes one that is written otherwise or that Check rejects.
		r.N, _ = strconv.Atoi(next())
	}
	return r, true
}

// endWord returns the word for the label at an end of an edge.
func endWord(label string) string {
	if label == "" {
		return anyLabel
	}
	return label
}

// endOf returns the label that endWord writes as word.
func endOf(word string) string {
	if word == anyLabel {
		return ""
	}
	return word
}

// kindWord returns the word for a kind of values, or the empty string if properties of that kind can't be asked for.
func kindWord(kind int) string {
	switch kind {
	case api.VBool:
		return "bool"
	case api.VInt:
		return "int"
	case api.VStr:
		return "str"
	}
	return ""
}

// kindOf returns the kind that kindWord writes as word, or a kind that Check rejects.
func kindOf(word string) int {
	switch word {
	case "bool":
		return api.VBool
	case "int":
		return api.VInt
	case "str":
		return api.VStr
	}
	return api.VNull
}
