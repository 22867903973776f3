package term

import "kiln/api"

// node is what a term is made into when it is begun, one struct a Kind. Its arguments stay terms until they are begun in their turn: what is never begun may be wrong, and terms that share their arguments may be far more, taken one by one, than any budget lets run.
type node interface {
	isNode()
}

// The arguments of a node, called as the chapter's table calls them.
type (
	none  struct{}
	one   struct{ a *api.Term }
	two   struct{ a, b *api.Term }
	three struct{ a, b, c *api.Term }
)

func (none) isNode()  {}
func (one) isNode()   {}
func (two) isNode()   {}
func (three) isNode() {}

// The nodes.
type (
	text struct {
		none
		bytes string
	}
	input struct {
		none
		data []byte
	}
	variable struct {
		none
		text string
	}
	cat struct {
		none
		parts []api.Term
	}
	upper struct{ one }
	lower struct{ one }
	lines struct {
		one
		from, to int
	}
	sort    struct{ one }
	uniq    struct{ one }
	replace struct{ three }
	count   struct{ two }
	choice  struct{ three }
	each    struct {
		one
		name string
		t    *api.Term
	}
	key  struct{ one }
	fail struct{ one }
)

// argCounts: how many arguments a node of each Kind has; a TCat may have more.
var argCounts = [...]int{
	api.TText:    0,
	api.TIn:      0,
	api.TVar:     0,
	api.TCat:     1,
	api.TUpper:   1,
	api.TLower:   1,
	api.TLines:   1,
	api.TSort:    1,
	api.TUniq:    1,
	api.TReplace: 3,
	api.TCount:   2,
	api.TIf:      3,
	api.TEach:    2,
	api.TKey:     1,
	api.TFail:    1,
}

// isTerm tells whether a term's Kind is one, and whether it has as many arguments as that must have.
func isTerm(t *api.Term) bool {
	if t.Kind < api.TText || t.Kind > api.TFail {
		return false
	}
	must, has := argCounts[t.Kind], len(t.Args)
	return has == must || t.Kind == api.TCat && has > must
}

// nodeOf makes a term into its node.
func (r *runner) nodeOf(t *api.Term) node {
	demand(isTerm(t), api.ErrUnknown)
	switch t.Kind {
	case api.TText:
		return text{bytes: t.Text}
	case api.TIn:
		return input{data: r.dataOf(t.Text)}
	case api.TVar:
		return variable{text: r.textOf(t.Text)}
	case api.TCat:
		return cat{parts: t.Args}
	case api.TUpper:
		return upper{oneOf(t)}
	case api.TLower:
		return lower{oneOf(t)}
	case api.TLines:
		return lines{oneOf(t), t.N, t.M}
	case api.TSort:
		return sort{oneOf(t)}
	case api.TUniq:
		return uniq{oneOf(t)}
	case api.TReplace:
		return replace{threeOf(t)}
	case api.TCount:
		return count{two{&t.Args[0], &t.Args[1]}}
	case api.TIf:
		return choice{threeOf(t)}
	case api.TEach:
		return each{oneOf(t), t.Text, &t.Args[1]}
	case api.TKey:
		return key{oneOf(t)}
	default: // TFail: isTerm lets no other Kind come here
		return fail{oneOf(t)}
	}
}

// oneOf is the first argument of a term.
func oneOf(t *api.Term) one {
	return one{&t.Args[0]}
}

// threeOf is the three arguments of a term.
func threeOf(t *api.Term) three {
	return three{&t.Args[0], &t.Args[1], &t.Args[2]}
}
