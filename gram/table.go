package gram

import (
	"yucca/api"
	"yucca/char"
	"yucca/names"
)

// table has the symbols of a source, as far as they are known.
type table struct {
	src    api.Source
	tokens *names.Names // of each token its key; its number there is the token
	toks   []api.Tok    // Num 0 beyond $end: none is given yet
	nons   *names.Names
	types  *names.Names // the names that have a tag by %type
	tags   []string     // theirs
	start  string
	level  int
	owners map[int]int // by a number: the token that has it
}

func newTable(src api.Source) *table {
	t := &table{src: src, tokens: names.New(), nons: names.New(), types: names.New(), owners: map[int]int{}}
	t.add("$end", api.Tok{Name: "$end"})
	t.add("error", api.Tok{Name: "error", Num: -1})
	t.add("$unk", api.Tok{Name: "$unk", Num: -1})
	t.nons.Put("$accept")
	return t
}

// key tells by what a symbol is known: no name begins with a quote.
func key(s api.Sym) string {
	if s.Lit {
		return char.Text(s.Name[0])
	}
	return s.Name
}

func (t *table) add(key string, tok api.Tok) int {
	t.toks = append(t.toks, tok)
	return t.tokens.Put(key)
}

// token tells the number of a symbol that is a token by now; of another one
// it is made a token. False: it is a byte whose number another token has.
func (t *table) token(s api.Sym) (int, bool) {
	if i := t.tokens.Find(key(s)); i >= 0 {
		return i, true
	}
	if !s.Lit {
		return t.add(key(s), api.Tok{Name: s.Name}), true
	}
	num := int(s.Name[0])
	if t.owned(num) {
		return 0, false
	}
	i := t.add(key(s), api.Tok{Name: s.Name, Lit: true, Num: num})
	t.owners[num] = i
	return i, true
}

func (t *table) owned(num int) bool {
	_, ok := t.owners[num]
	return ok
}

func wrong(s api.Sym) *api.Fault {
	return &api.Fault{Err: api.ErrName, At: s.At, Name: s.Name}
}

// declare goes through the declarations, symbol by symbol.
func (t *table) declare() *api.Fault {
	for _, d := range t.src.Decls {
		if levels(d.Kind) {
			t.level++
		}
		for _, s := range d.Syms {
			if !t.declareSym(d, s) {
				return wrong(s)
			}
		}
	}
	return nil
}

func levels(kind int) bool {
	return kind == api.DLeft || kind == api.DRight || kind == api.DNon
}

func (t *table) declareSym(d api.Decl, s api.Sym) bool {
	switch d.Kind {
	case api.DType:
		return t.declareType(d.Tag, s)
	case api.DStart:
		if t.start != "" {
			return false
		}
		t.start = s.Name
		return true
	}
	return t.declareToken(d, s)
}

func (t *table) declareType(tag string, s api.Sym) bool {
	i := t.types.Put(s.Name)
	if i == len(t.tags) {
		t.tags = append(t.tags, tag)
	}
	return t.tags[i] == tag
}

func (t *table) declareToken(d api.Decl, s api.Sym) bool {
	i, ok := t.token(s)
	if !ok {
		return false
	}
	tok := &t.toks[i]
	if levels(d.Kind) {
		if tok.Level > 0 {
			return false
		}
		tok.Level = t.level
		tok.Assoc = assoc(d.Kind)
	}
	if s.Num != 0 {
		if i == api.TError || tok.Num != 0 || t.owned(s.Num) {
			return false
		}
		tok.Num = s.Num
		t.owners[s.Num] = i
	}
	if d.Tag != "" {
		if tok.Tag != "" && tok.Tag != d.Tag {
			return false
		}
		tok.Tag = d.Tag
	}
	return true
}

func assoc(kind int) int {
	switch kind {
	case api.DLeft:
		return api.ALeft
	case api.DRight:
		return api.ARight
	}
	return api.ANon
}

// lefts goes through the rules' names.
func (t *table) lefts() *api.Fault {
	for _, r := range t.src.Rules {
		if t.tokens.Find(r.Left) >= 0 {
			return &api.Fault{Err: api.ErrName, At: r.At, Name: r.Left}
		}
		t.nons.Put(r.Left)
	}
	return nil
}

// typed looks whether what %type and %start name is some rule's name.
func (t *table) typed() *api.Fault {
	for _, d := range t.src.Decls {
		if d.Kind != api.DType && d.Kind != api.DStart {
			continue
		}
		for _, s := range d.Syms {
			if t.nons.Find(s.Name) < 0 {
				return wrong(s)
			}
		}
	}
	return nil
}

// uses goes through the symbols of the rules; bytes become tokens.
func (t *table) uses() *api.Fault {
	for _, r := range t.src.Rules {
		for _, a := range r.Alts {
			for _, p := range a.Parts {
				if p.Code == "" && !t.use(p.Sym) {
					return wrong(p.Sym)
				}
			}
			if hasPrec(a) && !t.usePrec(a.Prec) {
				return wrong(a.Prec)
			}
		}
	}
	return nil
}

func hasPrec(a api.Alt) bool { return a.Prec.Name != "" }

func (t *table) use(s api.Sym) bool {
	if !s.Lit && t.nons.Find(s.Name) >= 0 {
		return true
	}
	return t.usePrec(s)
}

func (t *table) usePrec(s api.Sym) bool {
	if !s.Lit {
		return t.tokens.Find(s.Name) >= 0
	}
	_, ok := t.token(s)
	return ok
}

// number gives numbers to the tokens that have none yet.
func (t *table) number() {
	next := api.FirstNum
	for i := range t.toks {
		if i != api.TEnd && t.toks[i].Num == 0 {
			t.toks[i].Num = next
			next++
		}
	}
}
