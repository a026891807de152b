package format_test

import (
	"fmt"

	"evergreen/format"
)

// Example is the example of README.md.
func Example() {
	l, line, e := format.Parse("format 2\nliteral 4d5a\nnumber 2\nbytes from 1\n")
	fmt.Println(len(l), line, e, format.Least(l, 2))
	f, found := format.Find(l, 2)
	fmt.Println(f.Fields[0].Text, found)
	l[0].Fields[2].From = 0
	fmt.Println(format.Valid(l))
	_, line, e = format.Parse("format 2\nliteral 4D5A\n")
	fmt.Println(line, e)
	// Output:
	// 1 0 0 4
	// MZ true
	// false
	// 2 40
}
