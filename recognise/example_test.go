package recognise_test

import (
	"fmt"

	"evergreen/format"
	"evergreen/recognise"
)

// Example is the example of README.md.
func Example() {
	l, _, _ := format.Parse("format 2\nliteral 4d5a\nnumber 2\nbytes from 1\nformat 7\nnumber 1\ninside 2 from 0\ncheck 1\n")
	s, e := recognise.Write(l, 7, []string{"x"})
	fmt.Printf("%x %d\n", s, e)
	parts, _, e := recognise.Match(l, 7, s)
	fmt.Println(len(parts), recognise.Number(s, parts[5]), e)
	_, why, e := recognise.Match(l, 7, "\x06"+s[1:])
	fmt.Println(why, e)
	fmt.Println(recognise.All(l, s), recognise.All(l, s[1:6]))
	// Output:
	// 054d5a00017825 0
	// 6 37 0
	// {6 7 1 4} 50
	// [7] [2]
}
