package frame

import (
	"bytes"

	"rostrum/api"
)

const (
	mark    = "Content-Length:" // where reading begins again after a fault
	headEnd = lineEnd + lineEnd
	maxEnd  = api.MaxHead + len(headEnd) // the byte at which a head and its end are over at the latest
)

// part is what was read of a frame so far. Its methods are the operations; they share nothing that changes, so that a reader and its copy may have the same one.
type part struct {
	size int // of the body, behind the head
}

// operation reads from the beginning of the bytes that are held.
type operation func(held []byte) step

// step is what an operation did.
type step struct {
	used   int       // so many bytes, which no operation needs again
	events []Event   // none or one
	next   operation // none: more bytes are needed, for the same operation
}

// head reads a head.
func (part) head(held []byte) step {
	begin := held[:min(len(held), maxEnd)]
	end := bytes.Index(begin, []byte(headEnd))
	if end < 0 && len(begin) < maxEnd {
		return step{}
	}
	if end < 0 {
		return fault(api.ErrHead)
	}
	size, e := length(string(begin[:end]))
	if e != api.OK {
		return fault(e)
	}
	return step{used: end + len(headEnd), next: part{size: size}.body}
}

// body reads the body behind a head.
func (p part) body(held []byte) step {
	if len(held) < p.size {
		return step{}
	}
	return step{
		used:   p.size,
		events: []Event{{Body: string(held[:p.size])}},
		next:   part{}.head,
	}
}

// skip goes on to the next mark.
func (part) skip(held []byte) step {
	at := bytes.Index(held, []byte(mark))
	if at < 0 {
		return step{used: len(held) - begun(held)}
	}
	return step{used: at, next: part{}.head}
}

// fault reports an error. Its first byte is skipped at once, for that may be where the mark of the wrong head begins.
func fault(e api.Errno) step {
	return step{used: 1, events: []Event{{E: e}}, next: part{}.skip}
}

// begun is how many bytes at the end may be the beginning of a mark.
func begun(held []byte) int {
	size := min(len(held), len(mark)-1)
	for !bytes.HasSuffix(held, []byte(mark[:size])) {
		size--
	}
	return size
}
