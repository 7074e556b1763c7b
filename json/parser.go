package json

import (
	"strconv"
	"strings"

	"rostrum/api"
	"rostrum/dec"
	"rostrum/utf"
)

// parser reads a JSON text from the left; where it is wrong, the error panics.
type parser struct {
	text   string
	at     int // the byte that comes next
	around int // the lists that are open there
	begun  int // the values that began before it
}

// whole reads the text up to its end.
func (p *parser) whole() api.Json {
	j := p.value()
	p.blanks()
	if p.at < len(p.text) {
		panic(api.ErrForm)
	}
	return j
}

func (p *parser) value() api.Json {
	p.blanks()
	p.begin()
	switch p.next() {
	case 'n':
		return p.word("null", api.Null)
	case 't':
		return p.word("true", api.True)
	case 'f':
		return p.word("false", api.False)
	case '"':
		return api.Json{Kind: api.String, Text: p.quoted()}
	case '[':
		return p.array()
	case '{':
		return p.object()
	default:
		return p.number()
	}
}

// begin counts a value, whether or not one comes next: that there may be none is told before what is wrong with it.
func (p *parser) begin() {
	if p.around >= api.MaxNest {
		panic(api.ErrDeep)
	}
	if p.begun >= api.MaxItems {
		panic(api.ErrTooLarge)
	}
	p.begun++
}

func (p *parser) word(word string, kind uint8) api.Json {
	if !strings.HasPrefix(p.text[p.at:], word) {
		panic(api.ErrForm)
	}
	p.at += len(word)
	return api.Json{Kind: kind}
}

// number reads what dec refuses, too: also where nothing is that belongs to a number.
func (p *parser) number() api.Json {
	own, e := dec.Own(p.while(numeric))
	if e != api.OK {
		panic(e)
	}
	return api.Json{Kind: api.Number, Text: own}
}

func (p *parser) array() api.Json {
	j := api.Json{Kind: api.Array}
	p.list('[', ']', func() {
		j.List = append(j.List, p.value())
	})
	return j
}

func (p *parser) object() api.Json {
	j := api.Json{Kind: api.Object}
	known := names{}
	p.list('{', '}', func() {
		name := p.quoted()
		if !known.add(name) {
			panic(api.ErrTwice)
		}
		p.blanks()
		p.need(':')
		j.Names = append(j.Names, name)
		j.List = append(j.List, p.value())
	})
	return j
}

// list reads from one bracket to the other; element reads what stands between two commas.
func (p *parser) list(open, shut byte, element func()) {
	p.need(open)
	p.around++
	p.blanks()
	if p.next() != shut {
		element()
		for p.blanks(); p.next() == ','; p.blanks() {
			p.need(',')
			p.blanks()
			element()
		}
	}
	p.need(shut)
	p.around--
}

// quoted reads a String or a name. All that can be wrong in it is the same error, so it may panic ahead of its end.
func (p *parser) quoted() string {
	var text strings.Builder
	p.need('"')
	for p.next() != '"' {
		text.WriteString(p.while(plain))
		if p.next() != '"' {
			text.WriteString(p.escaped())
		}
	}
	p.need('"')
	if !utf.Valid(text.String()) {
		panic(api.ErrForm)
	}
	return text.String()
}

// escaped reads a character that is written with \ .
func (p *parser) escaped() string {
	p.need('\\')
	mark := p.next()
	p.need(mark)
	switch i := strings.IndexByte(letters, mark); {
	case i >= 0:
		return meant[i : i+1]
	case mark == '/':
		return "/"
	case mark == 'u':
		return p.units()
	default:
		panic(api.ErrForm)
	}
}

// units reads the digits of a character's unit, and its second one, if it has two.
func (p *parser) units() string {
	unit := p.unit()
	if char := utf.Put(unit); char != "" {
		return char
	}
	// Just the units that are halves stand for no character.
	p.need('\\')
	p.need('u')
	point, ok := utf.Pair(unit, p.unit())
	if !ok {
		panic(api.ErrForm)
	}
	return utf.Put(point)
}

// unit reads four digits.
func (p *parser) unit() int {
	end := min(p.at+4, len(p.text))
	unit, err := strconv.ParseUint(p.text[p.at:end], 16, 16)
	if err != nil || end < p.at+4 {
		panic(api.ErrForm)
	}
	p.at = end
	return int(unit)
}

func (p *parser) blanks() { p.while(blank) }

// while reads the bytes that come next as long as they belong to something.
func (p *parser) while(belongs func(b byte) bool) string {
	from := p.at
	for p.at < len(p.text) && belongs(p.text[p.at]) {
		p.at++
	}
	return p.text[from:p.at]
}

// need reads a byte that must come next.
func (p *parser) need(b byte) {
	if p.at == len(p.text) || p.text[p.at] != b {
		panic(api.ErrForm)
	}
	p.at++
}

// next is the byte that comes next; at the end 0, which a JSON text allows nowhere.
func (p *parser) next() byte {
	if p.at == len(p.text) {
		return 0
	}
	return p.text[p.at]
}

func blank(b byte) bool {
	return b == ' ' || b == '\t' || b == '\n' || b == '\r'
}

func numeric(b byte) bool {
	return '0' <= b && b <= '9' || strings.IndexByte("+-.eE", b) >= 0
}
