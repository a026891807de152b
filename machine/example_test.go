package machine_test

import (
	"fmt"

	"evergreen/machine"
)

// Example is the example of README.md.
func Example() {
	code, _, e := machine.Parse("in\ndup\npush 0\nless\nif 7\nout\njump 0\ndrop\nhalt\n")
	fmt.Printf("%x %d\n", code, e)
	deepest, e := machine.Verify(code)
	fmt.Println(deepest, e)
	out, steps, e := machine.Run(code, "hi", 100)
	fmt.Println(out, steps, e)
	_, _, e = machine.Run(code, "hi", 20)
	fmt.Println(e)
	_, e = machine.Verify("\x04\x0b")
	fmt.Println(e)
	s, e := machine.Print("\x04\x0b")
	fmt.Printf("%q %d\n", s, e)
	_, line, e := machine.Parse("push 1\nif 01\n")
	fmt.Println(line, e)
	// Output:
	// 09010000000608000d0a070000030b 0
	// 3 0
	// hi 21 0
	// 80
	// 80
	// "add\nhalt\n" 0
	// 2 80
}
