package json

import (
	"strings"

	"rostrum/api"
)

// printer writes the text of a valid value; where it would be too long, it panics with the error.
type printer struct {
	text strings.Builder
}

func (p *printer) put(piece string) {
	if len(piece) > api.MaxJSON-p.text.Len() {
		panic(api.ErrTooLarge)
	}
	p.text.WriteString(piece)
}

func (p *printer) value(j api.Json) {
	switch j.Kind {
	case api.Null:
		p.put("null")
	case api.True:
		p.put("true")
	case api.False:
		p.put("false")
	case api.Number:
		p.put(j.Text)
	case api.String:
		p.quoted(j.Text)
	case api.Array:
		p.list("[", "]", j.List, func(int) {})
	case api.Object:
		p.list("{", "}", j.List, func(i int) {
			p.quoted(j.Names[i])
			p.put(":")
		})
	}
}

// list writes values between brackets; ahead writes what stands before each of them.
func (p *printer) list(open, shut string, values []api.Json, ahead func(i int)) {
	p.put(open)
	for i, j := range values {
		if i > 0 {
			p.put(",")
		}
		ahead(i)
		p.value(j)
	}
	p.put(shut)
}

func (p *printer) quoted(s string) {
	p.put(`"`)
	from := 0
	for at := range len(s) {
		if plain(s[at]) {
			continue
		}
		p.put(s[from:at])
		p.put(escape(s[at]))
		from = at + 1
	}
	p.put(s[from:])
	p.put(`"`)
}
