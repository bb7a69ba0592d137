package order

import (
	"slices"
	"strings"

	"dripstone/api"
)

// shapeWords returns the words with which the texts of shapes begin, by their kinds; where a text is a name there is none.
func shapeWords() []string {
	return []string{
		api.ShapeFlag: "flag",
		api.ShapeMax:  "max",
		api.ShapeSet:  "set",
		api.ShapeOnce: "once",
		api.ShapeMap:  "map",
		api.ShapePair: "pair",
	}
}

// every tells whether all elements of a list are as is asked.
func every[T any](l []T, is func(T) bool) bool {
	return !slices.ContainsFunc(l, func(x T) bool { return !is(x) })
}

// nameEnd returns where a rune stands first in a text that can be in no name; if there is none, the end of the text.
func nameEnd(s string) int {
	at := strings.IndexFunc(s, func(c rune) bool { return !isLetter(c) && (c < '0' || c > '9') })
	if at < 0 {
		return len(s)
	}
	return at
}

func isLetter(c rune) bool { return 'a' <= c && c <= 'z' }

func isName(s string) bool {
	return s != "" && len(s) <= api.MaxName && isLetter(rune(s[0])) && nameEnd(s) == len(s)
}

// isTableName tells whether a text can be the name of a table.
func isTableName(s string) bool {
	return isName(s) && !slices.Contains(shapeWords(), s)
}

// isFormed tells whether a table has its form.
func isFormed(t api.Table) bool {
	n := len(t.Elems)
	if n < 1 || n > api.MaxElems || len(t.Above) != n || len(t.Wrong) != n {
		return false
	}
	return isTableName(t.Name) && every(t.Elems, isName) && areDifferent(t.Elems...) &&
		every(t.Above, func(up []int) bool { return areNumbers(n, up...) })
}

// areNumbers tells whether elements strictly ascend, and are some of the first n ones.
func areNumbers(n int, elems ...int) bool {
	least := 0
	for _, a := range elems {
		if a < least || a >= n {
			return false
		}
		least = a + 1
	}
	return true
}

func areDifferent(names ...string) bool {
	for i, name := range names {
		if slices.Contains(names[:i], name) {
			return false
		}
	}
	return true
}
