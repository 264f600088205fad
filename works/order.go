package works

import "strings"

// order is a line that is as said: its verb, the word that is not a number, if one stands in it (a name, a material or a model), and its numbers.
type order struct {
	verb, word string
	numbers    []int
}

// What stands behind verbs, besides numbers that are not below 0.
const (
	nameKind     = "NAME"
	materialKind = "MATERIAL"
	modelKind    = "MODEL"
	signedKind   = "NUMBER"
	moreKind     = ".." // any number of words more like the one before it
)

// forms returns what stands behind each verb.
func forms() map[string]string {
	return map[string]string{
		"tick":  "N",
		"guard": "NAME",
		"free":  "NAME",
		"buy":   "MATERIAL N",
		"lot":   "MODEL N SCHEDULE",
		"mount": "LOT",
		"pump":  "PROGRAM TUBE ..",
		"show":  "TUBE TEST METER NUMBER",
		"judge": "TUBE",
		"sell":  "TUBE",
		"scrap": "TUBE",
		"pairs": "MODEL",
		"trace": "TUBE",
		"stock": "MATERIAL",
	}
}

// kinds returns what stands in a form, for so many words.
func kinds(form string, words int) []string {
	l := strings.Split(form, " ")
	last := len(l) - 1
	if l[last] != moreKind {
		return l
	}
	l = l[:last]
	for len(l) < words {
		l = append(l, l[last-1])
	}
	return l
}

// readOrder reads a line, and reports whether it is as said.
func readOrder(line string) (o order, is bool) {
	words := strings.Split(line, " ")
	form, is := forms()[words[0]]
	if !is {
		return order{}, false
	}
	o.verb, words = words[0], words[1:]
	l := kinds(form, len(words))
	if len(l) != len(words) {
		return order{}, false
	}
	for i, kind := range l {
		if !o.add(kind, words[i]) {
			return order{}, false
		}
	}
	return o, true
}

// add adds a word of a kind, and reports whether it is one.
func (o *order) add(kind, word string) bool {
	switch kind {
	case nameKind:
		o.word = word
		return isName(word)
	case materialKind:
		o.word = word
		return accountOf(word) >= 0
	case modelKind:
		o.word = word
		return isType(word)
	}
	n, is := number(word, maxDigits, kind == signedKind)
	o.numbers = append(o.numbers, n)
	return is
}
