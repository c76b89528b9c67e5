package datum

import (
	"strings"

	"rostrum/api"
)

// write puts down a datum that may be.
func write(b *strings.Builder, d api.Datum) {
	switch d.Kind {
	case api.DString:
		writeString(b, d.Text)
	case api.DVector:
		b.WriteString("#")
		writeParts(b, d)
	case api.DList:
		writeParts(b, d)
	default:
		b.WriteString(d.Text)
	}
}

func writeString(b *strings.Builder, s string) {
	b.WriteByte('"')
	for i := range len(s) {
		switch c := s[i]; c {
		case '\\', '"':
			b.WriteByte('\\')
			b.WriteByte(c)
		case '\n':
			b.WriteString(`\n`)
		case '\t':
			b.WriteString(`\t`)
		default:
			b.WriteByte(c)
		}
	}
	b.WriteByte('"')
}

func writeParts(b *strings.Builder, d api.Datum) {
	b.WriteByte('(')
	for i, x := range d.List {
		if i > 0 {
			b.WriteByte(' ')
		}
		write(b, x)
	}
	for _, x := range d.Tail {
		b.WriteString(" . ")
		write(b, x)
	}
	b.WriteByte(')')
}
