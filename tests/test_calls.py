"""What holds of every call: its form, and that nothing is kept, printed, read or imported."""

import contextlib
import inspect
import io
import sys
import unittest

from waterways import desk

PARAMETERS = {
    "side": ["px", "py", "qx", "qy", "cx", "cy"],
    "over": ["px", "py", "qx", "qy", "cx", "cy", "dx", "dy"],
    "near": ["px", "py", "qx", "qy", "cx", "cy"],
    "nearer": ["px", "py", "qx", "qy", "cx", "cy", "dx", "dy"],
    "touch": ["abowx", "abowy", "asternx", "asterny", "bbowx", "bbowy", "bsternx", "bsterny"],
    "astern": ["abowx", "abowy", "asternx", "asterny", "bbowx", "bbowy", "bsternx", "bsterny"],
    "tack": ["abowx", "abowy", "asternx", "asterny", "u", "v", "before"],
    "lee": ["abowx", "abowy", "asternx", "asterny", "bbowx", "bbowy", "bsternx", "bsterny", "u", "v"],
}

CALLS = [
    ("side", (0, 0, 10, 0, 5, 1), [1]),
    ("side", (0, 0, 10, 0, 5, 0), [0]),
    ("side", (0, 0, 10, 0, 5, -1), [2]),
    ("side", (0, 0, 0, 0, 5, -1), [-8]),
    ("side", (0, 0, 10, 0, 5, 1048577), [-8]),
    ("over", (0, 0, 10, 0, 5, -2, 5, 4), [1, 1, 3]),
    ("over", (0, 0, 10, 0, 5, 0, 5, 4), [1, 0, 1]),
    ("over", (0, 0, 10, 0, 5, 4, 5, -2), [0]),
    ("over", (0, 0, 0, 0, 5, -2, 5, 4), [-8]),
    ("over", (0, 0, 10, 0, 5, -2, 5, 2147483647), [-8]),
    ("near", (0, 0, 2, 1, 1, 1), [0, 1, 5]),
    ("near", (0, 0, 2, 1, -3, 4), [0, 25, 1]),
    ("near", (0, 0, 2, 1, 2, 1), [0, 0, 1]),
    ("near", (3, 3, 3, 3, 3, 1), [0, 4, 1]),
    ("near", (0, 0, 10, -1048577, 5, 1), [-8]),
    ("nearer", (0, 0, 2, 1, 1, 1, 0, 1), [1]),
    ("nearer", (0, 0, 2, 1, 1, 1, 2, 1), [2]),
    ("nearer", (0, 0, 2, 1, 1, 1, 1, 0), [0]),
    ("nearer", (3, 3, 3, 3, 3, 1, 2, 3), [2]),
    ("nearer", (0, 0, 10, 0, 5, -2, -2147483648, 0), [-8]),
    ("touch", (0, 4, 0, 0, 2, 2, -2, 2), [1]),
    ("touch", (0, 4, 0, 0, 0, 5, 0, 9), [0]),
    ("touch", (0, 4, 0, 0, 2, 2, 2, 2), [-8]),
    ("touch", (0, 4, 0, 1048577, 2, 2, -2, 2), [-8]),
    ("astern", (0, -1, 0, -5, 0, 4, 0, 0), [1]),
    ("astern", (0, 9, 0, 5, 0, 4, 0, 0), [2]),
    ("astern", (1, 6, 1, 2, 0, 4, 0, 0), [0]),
    ("astern", (0, -5, 0, -1, 0, 4, 0, 0), [3]),
    ("astern", (0, 4, 0, 4, 0, -1, 0, -5), [-8]),
    ("astern", (0, 4, 0, 0, 0, -1, -2147483648, -5), [-8]),
    ("tack", (0, 4, 0, 0, -1, 0, -1), [1]),
    ("tack", (0, 4, 0, 0, 1, 0, 1), [2]),
    ("tack", (0, 4, 0, 0, 0, -1, 1), [1]),
    ("tack", (0, 4, 0, 0, 0, -1, -1), [2]),
    ("tack", (0, 4, 0, 0, 0, 0, 1), [-8]),
    ("tack", (0, 4, 0, 0, -1, 0, 0), [-8]),
    ("lee", (0, 4, 0, 0, 0, -1, 0, -5, 0, -1), [1]),
    ("lee", (0, 4, 0, 0, 0, 9, 0, 5, 0, -1), [2]),
    ("lee", (0, 4, 0, 0, 3, 2, -3, 2, 0, -1), [0]),
    ("lee", (0, 4, 0, 4, 3, 2, -3, 2, 0, -1), [-8]),
    ("lee", (0, 4, 0, 0, 3, 2, -3, 2, 1048577, -1), [-8]),
]


def call(name, numbers):
    return getattr(desk, name)(*numbers)


def what_python_notes(calls):
    """The names of what Python tells its audit hooks (files opened, modules imported ..) while the calls run."""
    noted = []
    listening = [True]

    def hook(event, arguments):
        if listening:
            noted.append(event)

    # A hook can't be taken out again, so it is told when to stop listening.
    sys.addaudithook(hook)
    try:
        calls()
    finally:
        listening.clear()
    return noted


class Table(unittest.TestCase):
    def test_every_call_is_asked_and_refuses(self):
        self.assertEqual({name for name, numbers, answer in CALLS}, set(PARAMETERS))
        self.assertEqual({name for name, numbers, answer in CALLS if answer == [-8]}, set(PARAMETERS))


class Interface(unittest.TestCase):
    def test_names_and_arguments(self):
        for name, parameters in PARAMETERS.items():
            signature = inspect.signature(getattr(desk, name))
            self.assertEqual(list(signature.parameters), parameters)
            for parameter in signature.parameters.values():
                self.assertIs(parameter.default, inspect.Parameter.empty)

    def test_arguments_by_name(self):
        for name, numbers, answer in CALLS:
            named = dict(zip(PARAMETERS[name], numbers))
            self.assertEqual(getattr(desk, name)(**named), answer)


class Answers(unittest.TestCase):
    def test_a_list_of_whole_numbers(self):
        for name, numbers, answer in CALLS:
            told = call(name, numbers)
            self.assertEqual(told, answer)
            self.assertIs(type(told), list)
            for number in told:
                self.assertIs(type(number), int)

    def test_called_twice_and_in_another_order(self):
        by_turns = [CALLS[k] for start in range(5) for k in range(start, len(CALLS), 5)]
        for calls in (CALLS, CALLS, CALLS[::-1], CALLS[1::2] + CALLS[::2], by_turns, by_turns[::-1]):
            for name, numbers, answer in calls:
                self.assertEqual(call(name, numbers), answer)
                self.assertEqual(call(name, numbers), answer)

    def test_between_calls_of_all_the_others(self):
        for name, numbers, answer in CALLS:
            for other_name, other_numbers, other_answer in CALLS:
                self.assertEqual(call(name, numbers), answer)
                self.assertEqual(call(other_name, other_numbers), other_answer)
                self.assertEqual(call(name, numbers), answer)

    def test_an_answer_that_is_changed_changes_no_other(self):
        for name, numbers, answer in CALLS:
            told = call(name, numbers)
            told.append(99)
            told[0] = 77
            self.assertEqual(call(name, numbers), answer)


class Quiet(unittest.TestCase):
    def test_nothing_is_printed(self):
        out, err = io.StringIO(), io.StringIO()
        with contextlib.redirect_stdout(out), contextlib.redirect_stderr(err):
            for name, numbers, answer in CALLS:
                call(name, numbers)
        self.assertEqual((out.getvalue(), err.getvalue()), ("", ""))

    def test_nothing_is_read_or_imported(self):
        modules = sorted(sys.modules)
        noted = what_python_notes(lambda: [call(name, numbers) for name, numbers, answer in CALLS])
        self.assertEqual(noted, [])
        self.assertEqual(sorted(sys.modules), modules)

    def test_reading_and_importing_would_be_noted(self):
        def reads():
            with open(__file__, encoding="utf-8"):
                pass

        def imports():
            with contextlib.suppress(ImportError):
                __import__("a_module_that_is_not_there")

        self.assertIn("open", what_python_notes(reads))
        self.assertIn("import", what_python_notes(imports))

    def test_nothing_is_kept(self):
        before = {name: repr(value) for name, value in vars(desk).items() if name != "__builtins__"}
        for name, numbers, answer in CALLS:
            call(name, numbers)
        after = {name: repr(value) for name, value in vars(desk).items() if name != "__builtins__"}
        self.assertEqual(after, before)


if __name__ == "__main__":
    unittest.main()
