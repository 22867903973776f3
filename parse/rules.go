package parse

import (
	"slices"

	"kiln/api"
	"kiln/path"
)

// The words with which lines begin.
const (
	taskWord = "task"
	inWord   = "in"
	outWord  = "out"
	endWord  = "end"
)

// noKind: of a token with which no term begins.
const noKind = 0

// What the Text of a term is.
const (
	noText = iota
	anyText
	pathText
	nameText
)

// shape is how the terms of one Kind are written: a word and, in parentheses, what they have of Text, Args, and N and M, in this order. (A literal is its Text alone.)
type shape struct {
	word    string
	text    int
	args    int  // how many
	more    bool // or more than these
	numbers bool
}

// shapes of the Kinds.
var shapes = [...]shape{
	api.TText:    {text: anyText},
	api.TIn:      {word: "in", text: pathText},
	api.TVar:     {word: "var", text: nameText},
	api.TCat:     {word: "cat", args: 1, more: true},
	api.TUpper:   {word: "upper", args: 1},
	api.TLower:   {word: "lower", args: 1},
	api.TLines:   {word: "lines", args: 1, numbers: true},
	api.TSort:    {word: "sort", args: 1},
	api.TUniq:    {word: "uniq", args: 1},
	api.TReplace: {word: "replace", args: 3},
	api.TCount:   {word: "count", args: 2},
	api.TIf:      {word: "if", args: 3},
	api.TEach:    {word: "each", text: nameText, args: 2},
	api.TKey:     {word: "key", args: 1},
	api.TFail:    {word: "fail", args: 1},
}

// kindOf tells which Kind of term begins with a token.
func kindOf(t api.Token) int {
	switch t.Kind {
	case api.KLiteral:
		return api.TText
	case api.KWord:
		for kind := api.TIn; kind < len(shapes); kind++ {
			if shapes[kind].word == t.Text {
				return kind
			}
		}
	}
	return noKind
}

// isPath tells whether a text is a path.
func isPath(s string) bool {
	_, err, _ := path.Parse(s)
	return err == api.OK
}

// within tells whether a number is in its bounds.
func within(n, least, most int) bool {
	return least <= n && n <= most
}

// named tells whether one of these tasks has that name.
func named(tasks []api.Task, name string) bool {
	return slices.ContainsFunc(tasks, func(t api.Task) bool { return t.Name == name })
}

// apart is paths, none of which lies under another one, in their order.
type apart []string

// join puts a path among them, if it may be there, and tells that.
func (a *apart) join(p string) bool {
	at, _ := slices.BinarySearchFunc(*a, p, path.Order)
	// What lies under a path stands together, right behind it: so whatever is in the way is a neighbour.
	if at > 0 && path.Under((*a)[at-1], p) || at < len(*a) && path.Under(p, (*a)[at]) {
		return false
	}
	*a = slices.Insert(*a, at, p)
	return true
}
