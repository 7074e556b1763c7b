package json

import (
	"slices"
	"strings"

	"rostrum/api"
)

// same says whether two values are the same, of which one is bounded.
func same(a, b api.Json) bool {
	return a.Kind == b.Kind && a.Text == b.Text && slices.Equal(a.Names, b.Names) && slices.EqualFunc(a.List, b.List, same)
}

// copied is a value, bounded, in memory of its own.
func copied(j api.Json) api.Json {
	c := api.Json{Kind: j.Kind, Text: strings.Clone(j.Text)}
	for _, name := range j.Names {
		c.Names = append(c.Names, strings.Clone(name))
	}
	for _, part := range j.List {
		c.List = append(c.List, copied(part))
	}
	return c
}
