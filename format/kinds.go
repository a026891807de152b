package format

import (
	"strconv"

	"evergreen/api"
)

// kind describes the fields of a kind by functions.
type kind struct {
	word  string                             // the first word of their lines
	right func(t *table, f api.Field) bool   // whether f may be the next field of t
	least func(t *table, f api.Field) int    // how many bytes such a field has at least
	write func(f api.Field) string           // the other words of the line of f
	read  func(next func() string) api.Field // the field with the words that next returns, but for its kind
}

// kinds returns the descriptions of the kinds; that of the kind 0, which does not exist, is zero.
func kinds() [api.FCheck + 1]kind {
	return [api.FCheck + 1]kind{
		api.FLiteral: {
			word: "literal",
			right: func(t *table, f api.Field) bool {
				return f.N == 0 && f.From == -1 && within(len(f.Text), 1, api.MaxLiteral)
			},
			least: func(t *table, f api.Field) int { return len(f.Text) },
			write: func(f api.Field) string { return hexadecimal(f.Text) },
			read:  func(next func() string) api.Field { return api.Field{From: -1, Text: fromHexadecimal(next())} },
		},
		api.FNumber: sized("number", 1, api.MaxWidth),
		api.FBytes:  orCounted(sized("bytes", 0, api.MaxFixed)),
		api.FList: {
			word:  "list",
			right: nests,
			least: func(t *table, f api.Field) int { return 0 },
			write: writeNested,
			read:  readNested,
		},
		api.FInside: {
			word:  "inside",
			right: func(t *table, f api.Field) bool { return nests(t, f) && t.tells(f.From, t.least[f.N]) },
			least: func(t *table, f api.Field) int { return t.least[f.N] },
			write: writeNested,
			read:  readNested,
		},
		api.FCheck: sized("check", 1, api.MaxWidth),
	}
}

// sized returns a kind of fields of N bytes, from low to high.
func sized(word string, low int, high int) kind {
	return kind{
		word:  word,
		right: func(t *table, f api.Field) bool { return f.From == -1 && f.Text == "" && within(f.N, low, high) },
		least: func(t *table, f api.Field) int { return f.N },
		write: func(f api.Field) string { return strconv.Itoa(f.N) },
		read:  func(next func() string) api.Field { return api.Field{N: number(next()), From: -1} },
	}
}

// orCounted returns a kind of fields that are as those of a sized kind, or have as many bytes as a number says.
func orCounted(k kind) kind {
	return kind{
		word: k.word,
		right: func(t *table, f api.Field) bool {
			return k.right(t, f) || f.N == 0 && f.Text == "" && t.counts(f.From)
		},
		least: k.least,
		write: func(f api.Field) string {
			if f.From == -1 {
				return k.write(f)
			}
			return "from " + strconv.Itoa(f.From)
		},
		read: func(next func() string) api.Field {
			word := next()
			if word == "from" {
				return api.Field{From: number(next())}
			}
			return api.Field{N: number(word), From: -1}
		},
	}
}

// nests reports whether f may be the next field of t that names a format and a number.
func nests(t *table, f api.Field) bool {
	return f.Text == "" && t.knows(f.N) && t.counts(f.From)
}

// writeNested returns the words of a field that names a format and a number.
func writeNested(f api.Field) string {
	return strconv.Itoa(f.N) + " from " + strconv.Itoa(f.From)
}

// readNested returns the field with such words.
func readNested(next func() string) api.Field {
	n := number(next())
	require(next() == "from")
	return api.Field{N: n, From: number(next())}
}

// within reports whether n is from low to high.
func within(n int, low int, high int) bool {
	return n >= low && n <= high
}
